/-
  What gradineref17.twice and gradineref17.Along return. Conditions: the numbers have at most 64 words.
-/
import Derived.Test.YtfhihapgjiaobaaGreatTgMoreAllE
namespace Go.Proofs.YtfhihapgjiaobaaGreat
set_option maxRecDepth 100000
open Go.RowKit
set_option linter.unusedVariables false
set_option linter.unusedSimpArgs false

set_option maxRecDepth 100000 in
set_option maxHeartbeats 4000000 in
theorem rf_twice {w : World} {s : Bool} {A A' : Option Addr} {n n' c c' N : Nat} {X : Rat} (h : Q w s A n c A' n' c' X) (hX : Sz X N) (hN : N ≤ 400) :
    Calls Tryz.prog 81 #[.agg #[.bool s, .slice A n c, .slice A' n' c']] w (RetQ (X + X) w) := by
  obtain ⟨V, hW, Ba, Br, hb0⟩ := boxes1 45 w #[.bool s, .slice A n c, .slice A' n' c'] #[.bool false, .slice none 0 0, .slice none 0 0]
  have K := ref_qadd (h.below hb0) (h.below hb0) hX hX hN
  have HK := Lib.hid K
  have HBr := Lib.hid Br
  have HW := Lib.hid hW
  clear K Ba Br hW h
  go_enter Tryz.func81, Tryz.ntmps81
  go_wp2_with fail
  rw [HW.out]
  with_reducible refine HK.out.mono ?_
  rintro _ w1 ⟨s1, A1, n1, c1, D1, m1, d1, rfl, q1, b1⟩
  have B9 := HBr.out.below' b1
  obtain ⟨⟨r0, r1, r2⟩, f0, f1, f2⟩ := B9.three
  go_wp2_with fail
  refine bodyPost_ret (v := .agg #[.bool s1, .slice A1 n1 c1, .slice D1 m1 d1]) (by simp [results, Tryz.results81, go_sem, r0, r1, r2]) rfl ?_
  exact ⟨_, _, _, _, _, _, _, rfl, q1.put3 ⟨_, _, _, _, _, _, _, B9⟩, below_put3 (bb hb0 b1) (by omega) (Nat.le_refl _) _ _ _⟩

theorem boxesV (t1 t2 t3 t4 t5 : TypeId) (w : World) (v1 v2 v3 v4 v5 : Array Value) : ∃ W, ((((w.alloc (.cells v1 t1)).alloc (.cells v2 t2)).alloc (.cells v3 t3)).alloc (.cells v4 t4)).alloc (.cells v5 t5) = W ∧
    Box t1 W w.heap.size v1 ∧ Box t2 W (w.heap.size + 1) v2 ∧ Box t3 W (w.heap.size + 1 + 1) v3 ∧ Box t4 W (w.heap.size + 1 + 1 + 1) v4 ∧ Box t5 W (w.heap.size + 1 + 1 + 1 + 1) v5 ∧ Below w.heap.size w W ∧ W.heap.size = w.heap.size + 1 + 1 + 1 + 1 + 1 := by
  have e2 : (w.alloc (.cells v1 t1)).heap.size = w.heap.size + 1 := by simp
  have e3 : ((w.alloc (.cells v1 t1)).alloc (.cells v2 t2)).heap.size = w.heap.size + 1 + 1 := by simp
  have e4 : (((w.alloc (.cells v1 t1)).alloc (.cells v2 t2)).alloc (.cells v3 t3)).heap.size = w.heap.size + 1 + 1 + 1 := by simp
  have e5 : ((((w.alloc (.cells v1 t1)).alloc (.cells v2 t2)).alloc (.cells v3 t3)).alloc (.cells v4 t4)).heap.size = w.heap.size + 1 + 1 + 1 + 1 := by simp
  refine ⟨_, rfl, ((((Box.new w t1 v1).alloc _).alloc _).alloc _).alloc _, ?_, ?_, ?_, ?_, ?_, by simp⟩
  · rw [← e2]; exact (((Box.new _ t2 v2).alloc _).alloc _).alloc _
  · rw [← e3]; exact ((Box.new _ t3 v3).alloc _).alloc _
  · rw [← e4]; exact (Box.new _ t4 v4).alloc _
  · rw [← e5]; exact Box.new _ t5 v5
  · exact ((((below_alloc _ _).alloc (by simp) _).alloc (by simp; omega) _).alloc (by simp; omega) _).alloc (by simp; omega) _

set_option maxRecDepth 100000 in
set_option maxHeartbeats 8000000 in
theorem al_neg {w : World} {s_y : Bool} {A_y D_y : Option Addr} {n_y c_y m_y d_y : Nat} {X_y : Rat} {s_va : Bool} {A_va D_va : Option Addr} {n_va c_va m_va d_va : Nat} {X_va : Rat} {s_vb : Bool} {A_vb D_vb : Option Addr} {n_vb c_vb m_vb d_vb : Nat} {X_vb : Rat} {s_ta : Bool} {A_ta D_ta : Option Addr} {n_ta c_ta m_ta d_ta : Nat} {X_ta : Rat} {s_tb : Bool} {A_tb D_tb : Option Addr} {n_tb c_tb m_tb d_tb : Nat} {X_tb : Rat} {q : RQ} {a b : Int} (q_y : Q w s_y A_y n_y c_y D_y m_y d_y X_y) (z_y : Sz X_y 64) (q_va : Q w s_va A_va n_va c_va D_va m_va d_va X_va) (z_va : Sz X_va 64) (q_vb : Q w s_vb A_vb n_vb c_vb D_vb m_vb d_vb X_vb) (z_vb : Sz X_vb 64) (q_ta : Q w s_ta A_ta n_ta c_ta D_ta m_ta d_ta X_ta) (z_ta : Sz X_ta 64) (q_tb : Q w s_tb A_tb n_tb c_tb D_tb m_tb d_tb X_tb) (z_tb : Sz X_tb 64) :
    Calls Tryz.prog 69 #[.agg #[.int .i64 3, .int .i64 a, .int .i64 b, .bool q.s, .slice q.A q.n q.c, .slice q.A' q.n' q.c'], .agg #[.bool s_y, .slice A_y n_y c_y, .slice D_y m_y d_y], .agg #[.bool s_va, .slice A_va n_va c_va, .slice D_va m_va d_va, .bool s_vb, .slice A_vb n_vb c_vb, .slice D_vb m_vb d_vb], .agg #[.bool s_ta, .slice A_ta n_ta c_ta, .slice D_ta m_ta d_ta, .bool s_tb, .slice A_tb n_tb c_tb, .slice D_tb m_tb d_tb]] w (RetQE (-X_ta) 0 w) := by
  obtain ⟨V, hW, Bx, By, Bv, Bt, Br, hb0, hsz⟩ := boxesV 52 45 74 74 45 w #[.int .i64 3, .int .i64 a, .int .i64 b, .bool q.s, .slice q.A q.n q.c, .slice q.A' q.n' q.c'] #[.bool s_y, .slice A_y n_y c_y, .slice D_y m_y d_y] #[.bool s_va, .slice A_va n_va c_va, .slice D_va m_va d_va, .bool s_vb, .slice A_vb n_vb c_vb, .slice D_vb m_vb d_vb] #[.bool s_ta, .slice A_ta n_ta c_ta, .slice D_ta m_ta d_ta, .bool s_tb, .slice A_tb n_tb c_tb, .slice D_tb m_tb d_tb] #[.bool false, .slice none 0 0, .slice none 0 0]
  have K := ref_neg (q_ta.below hb0) z_ta (by omega)
  have HK := Lib.hid K
  have HBr := Lib.hid Br
  have HW := Lib.hid hW
  clear K Bx By Bv Bt Br hW q_y q_va q_vb q_ta q_tb
  go_enter Tryz.func69, Tryz.ntmps69
  go_wp2_with fail
  rw [HW.out]
  with_reducible refine HK.out.mono ?_
  rintro _ w1 ⟨s1, A1, n1, c1, E1, m1, d1, rfl, q1, b1⟩
  have x1 : Below V.heap.size V w1 := b1
  have B9 := HBr.out.below' x1
  obtain ⟨⟨r0, r1, r2⟩, f0, f1, f2⟩ := B9.three
  go_wp2_with fail
  refine bodyPost_ret (v := .tuple #[.agg #[.bool s1, .slice A1 n1 c1, .slice E1 m1 d1], .int .i64 0]) (by simp [results, Tryz.results69, go_sem, r0, r1, r2]) rfl ?_
  exact ⟨_, _, _, _, _, _, _, rfl, q1.put3 ⟨_, _, _, _, _, _, _, B9⟩, below_put3 (bb hb0 x1) (by omega) (Nat.le_refl _) _ _ _⟩

set_option maxRecDepth 100000 in
set_option maxHeartbeats 8000000 in
theorem al_add {w : World} {s_y : Bool} {A_y D_y : Option Addr} {n_y c_y m_y d_y : Nat} {X_y : Rat} {s_va : Bool} {A_va D_va : Option Addr} {n_va c_va m_va d_va : Nat} {X_va : Rat} {s_vb : Bool} {A_vb D_vb : Option Addr} {n_vb c_vb m_vb d_vb : Nat} {X_vb : Rat} {s_ta : Bool} {A_ta D_ta : Option Addr} {n_ta c_ta m_ta d_ta : Nat} {X_ta : Rat} {s_tb : Bool} {A_tb D_tb : Option Addr} {n_tb c_tb m_tb d_tb : Nat} {X_tb : Rat} {q : RQ} {a b : Int} (q_y : Q w s_y A_y n_y c_y D_y m_y d_y X_y) (z_y : Sz X_y 64) (q_va : Q w s_va A_va n_va c_va D_va m_va d_va X_va) (z_va : Sz X_va 64) (q_vb : Q w s_vb A_vb n_vb c_vb D_vb m_vb d_vb X_vb) (z_vb : Sz X_vb 64) (q_ta : Q w s_ta A_ta n_ta c_ta D_ta m_ta d_ta X_ta) (z_ta : Sz X_ta 64) (q_tb : Q w s_tb A_tb n_tb c_tb D_tb m_tb d_tb X_tb) (z_tb : Sz X_tb 64) :
    Calls Tryz.prog 69 #[.agg #[.int .i64 4, .int .i64 a, .int .i64 b, .bool q.s, .slice q.A q.n q.c, .slice q.A' q.n' q.c'], .agg #[.bool s_y, .slice A_y n_y c_y, .slice D_y m_y d_y], .agg #[.bool s_va, .slice A_va n_va c_va, .slice D_va m_va d_va, .bool s_vb, .slice A_vb n_vb c_vb, .slice D_vb m_vb d_vb], .agg #[.bool s_ta, .slice A_ta n_ta c_ta, .slice D_ta m_ta d_ta, .bool s_tb, .slice A_tb n_tb c_tb, .slice D_tb m_tb d_tb]] w (RetQE (X_ta + X_tb) 0 w) := by
  obtain ⟨V, hW, Bx, By, Bv, Bt, Br, hb0, hsz⟩ := boxesV 52 45 74 74 45 w #[.int .i64 4, .int .i64 a, .int .i64 b, .bool q.s, .slice q.A q.n q.c, .slice q.A' q.n' q.c'] #[.bool s_y, .slice A_y n_y c_y, .slice D_y m_y d_y] #[.bool s_va, .slice A_va n_va c_va, .slice D_va m_va d_va, .bool s_vb, .slice A_vb n_vb c_vb, .slice D_vb m_vb d_vb] #[.bool s_ta, .slice A_ta n_ta c_ta, .slice D_ta m_ta d_ta, .bool s_tb, .slice A_tb n_tb c_tb, .slice D_tb m_tb d_tb] #[.bool false, .slice none 0 0, .slice none 0 0]
  have K := ref_qadd (q_ta.below hb0) (q_tb.below hb0) z_ta z_tb (by omega)
  have HK := Lib.hid K
  have HBr := Lib.hid Br
  have HW := Lib.hid hW
  clear K Bx By Bv Bt Br hW q_y q_va q_vb q_ta q_tb
  go_enter Tryz.func69, Tryz.ntmps69
  go_wp2_with fail
  rw [HW.out]
  with_reducible refine HK.out.mono ?_
  rintro _ w1 ⟨s1, A1, n1, c1, E1, m1, d1, rfl, q1, b1⟩
  have x1 : Below V.heap.size V w1 := b1
  have B9 := HBr.out.below' x1
  obtain ⟨⟨r0, r1, r2⟩, f0, f1, f2⟩ := B9.three
  go_wp2_with fail
  refine bodyPost_ret (v := .tuple #[.agg #[.bool s1, .slice A1 n1 c1, .slice E1 m1 d1], .int .i64 0]) (by simp [results, Tryz.results69, go_sem, r0, r1, r2]) rfl ?_
  exact ⟨_, _, _, _, _, _, _, rfl, q1.put3 ⟨_, _, _, _, _, _, _, B9⟩, below_put3 (bb hb0 x1) (by omega) (Nat.le_refl _) _ _ _⟩

set_option maxRecDepth 100000 in
set_option maxHeartbeats 8000000 in
theorem al_sub {w : World} {s_y : Bool} {A_y D_y : Option Addr} {n_y c_y m_y d_y : Nat} {X_y : Rat} {s_va : Bool} {A_va D_va : Option Addr} {n_va c_va m_va d_va : Nat} {X_va : Rat} {s_vb : Bool} {A_vb D_vb : Option Addr} {n_vb c_vb m_vb d_vb : Nat} {X_vb : Rat} {s_ta : Bool} {A_ta D_ta : Option Addr} {n_ta c_ta m_ta d_ta : Nat} {X_ta : Rat} {s_tb : Bool} {A_tb D_tb : Option Addr} {n_tb c_tb m_tb d_tb : Nat} {X_tb : Rat} {q : RQ} {a b : Int} (q_y : Q w s_y A_y n_y c_y D_y m_y d_y X_y) (z_y : Sz X_y 64) (q_va : Q w s_va A_va n_va c_va D_va m_va d_va X_va) (z_va : Sz X_va 64) (q_vb : Q w s_vb A_vb n_vb c_vb D_vb m_vb d_vb X_vb) (z_vb : Sz X_vb 64) (q_ta : Q w s_ta A_ta n_ta c_ta D_ta m_ta d_ta X_ta) (z_ta : Sz X_ta 64) (q_tb : Q w s_tb A_tb n_tb c_tb D_tb m_tb d_tb X_tb) (z_tb : Sz X_tb 64) :
    Calls Tryz.prog 69 #[.agg #[.int .i64 5, .int .i64 a, .int .i64 b, .bool q.s, .slice q.A q.n q.c, .slice q.A' q.n' q.c'], .agg #[.bool s_y, .slice A_y n_y c_y, .slice D_y m_y d_y], .agg #[.bool s_va, .slice A_va n_va c_va, .slice D_va m_va d_va, .bool s_vb, .slice A_vb n_vb c_vb, .slice D_vb m_vb d_vb], .agg #[.bool s_ta, .slice A_ta n_ta c_ta, .slice D_ta m_ta d_ta, .bool s_tb, .slice A_tb n_tb c_tb, .slice D_tb m_tb d_tb]] w (RetQE (X_ta - X_tb) 0 w) := by
  obtain ⟨V, hW, Bx, By, Bv, Bt, Br, hb0, hsz⟩ := boxesV 52 45 74 74 45 w #[.int .i64 5, .int .i64 a, .int .i64 b, .bool q.s, .slice q.A q.n q.c, .slice q.A' q.n' q.c'] #[.bool s_y, .slice A_y n_y c_y, .slice D_y m_y d_y] #[.bool s_va, .slice A_va n_va c_va, .slice D_va m_va d_va, .bool s_vb, .slice A_vb n_vb c_vb, .slice D_vb m_vb d_vb] #[.bool s_ta, .slice A_ta n_ta c_ta, .slice D_ta m_ta d_ta, .bool s_tb, .slice A_tb n_tb c_tb, .slice D_tb m_tb d_tb] #[.bool false, .slice none 0 0, .slice none 0 0]
  have K := ref_qsub (q_ta.below hb0) (q_tb.below hb0) z_ta z_tb (by omega)
  have HK := Lib.hid K
  have HBr := Lib.hid Br
  have HW := Lib.hid hW
  clear K Bx By Bv Bt Br hW q_y q_va q_vb q_ta q_tb
  go_enter Tryz.func69, Tryz.ntmps69
  go_wp2_with fail
  rw [HW.out]
  with_reducible refine HK.out.mono ?_
  rintro _ w1 ⟨s1, A1, n1, c1, E1, m1, d1, rfl, q1, b1⟩
  have x1 : Below V.heap.size V w1 := b1
  have B9 := HBr.out.below' x1
  obtain ⟨⟨r0, r1, r2⟩, f0, f1, f2⟩ := B9.three
  go_wp2_with fail
  refine bodyPost_ret (v := .tuple #[.agg #[.bool s1, .slice A1 n1 c1, .slice E1 m1 d1], .int .i64 0]) (by simp [results, Tryz.results69, go_sem, r0, r1, r2]) rfl ?_
  exact ⟨_, _, _, _, _, _, _, rfl, q1.put3 ⟨_, _, _, _, _, _, _, B9⟩, below_put3 (bb hb0 x1) (by omega) (Nat.le_refl _) _ _ _⟩

set_option maxRecDepth 100000 in
set_option maxHeartbeats 8000000 in
theorem al_exp {w : World} {s_y : Bool} {A_y D_y : Option Addr} {n_y c_y m_y d_y : Nat} {X_y : Rat} {s_va : Bool} {A_va D_va : Option Addr} {n_va c_va m_va d_va : Nat} {X_va : Rat} {s_vb : Bool} {A_vb D_vb : Option Addr} {n_vb c_vb m_vb d_vb : Nat} {X_vb : Rat} {s_ta : Bool} {A_ta D_ta : Option Addr} {n_ta c_ta m_ta d_ta : Nat} {X_ta : Rat} {s_tb : Bool} {A_tb D_tb : Option Addr} {n_tb c_tb m_tb d_tb : Nat} {X_tb : Rat} {q : RQ} {a b : Int} (q_y : Q w s_y A_y n_y c_y D_y m_y d_y X_y) (z_y : Sz X_y 64) (q_va : Q w s_va A_va n_va c_va D_va m_va d_va X_va) (z_va : Sz X_va 64) (q_vb : Q w s_vb A_vb n_vb c_vb D_vb m_vb d_vb X_vb) (z_vb : Sz X_vb 64) (q_ta : Q w s_ta A_ta n_ta c_ta D_ta m_ta d_ta X_ta) (z_ta : Sz X_ta 64) (q_tb : Q w s_tb A_tb n_tb c_tb D_tb m_tb d_tb X_tb) (z_tb : Sz X_tb 64) :
    Calls Tryz.prog 69 #[.agg #[.int .i64 9, .int .i64 a, .int .i64 b, .bool q.s, .slice q.A q.n q.c, .slice q.A' q.n' q.c'], .agg #[.bool s_y, .slice A_y n_y c_y, .slice D_y m_y d_y], .agg #[.bool s_va, .slice A_va n_va c_va, .slice D_va m_va d_va, .bool s_vb, .slice A_vb n_vb c_vb, .slice D_vb m_vb d_vb], .agg #[.bool s_ta, .slice A_ta n_ta c_ta, .slice D_ta m_ta d_ta, .bool s_tb, .slice A_tb n_tb c_tb, .slice D_tb m_tb d_tb]] w (RetQE (X_ta * X_y) 0 w) := by
  obtain ⟨V, hW, Bx, By, Bv, Bt, Br, hb0, hsz⟩ := boxesV 52 45 74 74 45 w #[.int .i64 9, .int .i64 a, .int .i64 b, .bool q.s, .slice q.A q.n q.c, .slice q.A' q.n' q.c'] #[.bool s_y, .slice A_y n_y c_y, .slice D_y m_y d_y] #[.bool s_va, .slice A_va n_va c_va, .slice D_va m_va d_va, .bool s_vb, .slice A_vb n_vb c_vb, .slice D_vb m_vb d_vb] #[.bool s_ta, .slice A_ta n_ta c_ta, .slice D_ta m_ta d_ta, .bool s_tb, .slice A_tb n_tb c_tb, .slice D_tb m_tb d_tb] #[.bool false, .slice none 0 0, .slice none 0 0]
  have K := ref_qmul (q_ta.below hb0) (q_y.below hb0) z_ta z_y (by omega)
  have HK := Lib.hid K
  have HBr := Lib.hid Br
  have HW := Lib.hid hW
  clear K Bx By Bv Bt Br hW q_y q_va q_vb q_ta q_tb
  go_enter Tryz.func69, Tryz.ntmps69
  go_wp2_with fail
  rw [HW.out]
  with_reducible refine HK.out.mono ?_
  rintro _ w1 ⟨s1, A1, n1, c1, E1, m1, d1, rfl, q1, b1⟩
  have x1 : Below V.heap.size V w1 := b1
  have B9 := HBr.out.below' x1
  obtain ⟨⟨r0, r1, r2⟩, f0, f1, f2⟩ := B9.three
  go_wp2_with fail
  refine bodyPost_ret (v := .tuple #[.agg #[.bool s1, .slice A1 n1 c1, .slice E1 m1 d1], .int .i64 0]) (by simp [results, Tryz.results69, go_sem, r0, r1, r2]) rfl ?_
  exact ⟨_, _, _, _, _, _, _, rfl, q1.put3 ⟨_, _, _, _, _, _, _, B9⟩, below_put3 (bb hb0 x1) (by omega) (Nat.le_refl _) _ _ _⟩

set_option maxRecDepth 100000 in
set_option maxHeartbeats 8000000 in
theorem al_mul {w : World} {s_y : Bool} {A_y D_y : Option Addr} {n_y c_y m_y d_y : Nat} {X_y : Rat} {s_va : Bool} {A_va D_va : Option Addr} {n_va c_va m_va d_va : Nat} {X_va : Rat} {s_vb : Bool} {A_vb D_vb : Option Addr} {n_vb c_vb m_vb d_vb : Nat} {X_vb : Rat} {s_ta : Bool} {A_ta D_ta : Option Addr} {n_ta c_ta m_ta d_ta : Nat} {X_ta : Rat} {s_tb : Bool} {A_tb D_tb : Option Addr} {n_tb c_tb m_tb d_tb : Nat} {X_tb : Rat} {q : RQ} {a b : Int} (q_y : Q w s_y A_y n_y c_y D_y m_y d_y X_y) (z_y : Sz X_y 64) (q_va : Q w s_va A_va n_va c_va D_va m_va d_va X_va) (z_va : Sz X_va 64) (q_vb : Q w s_vb A_vb n_vb c_vb D_vb m_vb d_vb X_vb) (z_vb : Sz X_vb 64) (q_ta : Q w s_ta A_ta n_ta c_ta D_ta m_ta d_ta X_ta) (z_ta : Sz X_ta 64) (q_tb : Q w s_tb A_tb n_tb c_tb D_tb m_tb d_tb X_tb) (z_tb : Sz X_tb 64) :
    Calls Tryz.prog 69 #[.agg #[.int .i64 6, .int .i64 a, .int .i64 b, .bool q.s, .slice q.A q.n q.c, .slice q.A' q.n' q.c'], .agg #[.bool s_y, .slice A_y n_y c_y, .slice D_y m_y d_y], .agg #[.bool s_va, .slice A_va n_va c_va, .slice D_va m_va d_va, .bool s_vb, .slice A_vb n_vb c_vb, .slice D_vb m_vb d_vb], .agg #[.bool s_ta, .slice A_ta n_ta c_ta, .slice D_ta m_ta d_ta, .bool s_tb, .slice A_tb n_tb c_tb, .slice D_tb m_tb d_tb]] w (RetQE (X_ta * X_vb + X_va * X_tb) 0 w) := by
  obtain ⟨V, hW, Bx, By, Bv, Bt, Br, hb0, hsz⟩ := boxesV 52 45 74 74 45 w #[.int .i64 6, .int .i64 a, .int .i64 b, .bool q.s, .slice q.A q.n q.c, .slice q.A' q.n' q.c'] #[.bool s_y, .slice A_y n_y c_y, .slice D_y m_y d_y] #[.bool s_va, .slice A_va n_va c_va, .slice D_va m_va d_va, .bool s_vb, .slice A_vb n_vb c_vb, .slice D_vb m_vb d_vb] #[.bool s_ta, .slice A_ta n_ta c_ta, .slice D_ta m_ta d_ta, .bool s_tb, .slice A_tb n_tb c_tb, .slice D_tb m_tb d_tb] #[.bool false, .slice none 0 0, .slice none 0 0]
  have hS : ∀ w', Below V.heap.size V w' → w'.cell? ⟨w.heap.size, 0, none⟩ = some (.int .i64 6) ∧ w'.cell? ⟨w.heap.size + 1 + 1 + 1, 0, none⟩ = some (.bool s_ta) ∧ w'.cell? ⟨w.heap.size + 1 + 1 + 1, 1, none⟩ = some (.slice A_ta n_ta c_ta) ∧ w'.cell? ⟨w.heap.size + 1 + 1 + 1, 2, none⟩ = some (.slice D_ta m_ta d_ta) ∧ w'.cell? ⟨w.heap.size + 1 + 1 + 1, 3, none⟩ = some (.bool s_tb) ∧ w'.cell? ⟨w.heap.size + 1 + 1 + 1, 4, none⟩ = some (.slice A_tb n_tb c_tb) ∧ w'.cell? ⟨w.heap.size + 1 + 1 + 1, 5, none⟩ = some (.slice D_tb m_tb d_tb) ∧ w'.cell? ⟨w.heap.size + 1 + 1, 0, none⟩ = some (.bool s_va) ∧ w'.cell? ⟨w.heap.size + 1 + 1, 1, none⟩ = some (.slice A_va n_va c_va) ∧ w'.cell? ⟨w.heap.size + 1 + 1, 2, none⟩ = some (.slice D_va m_va d_va) ∧ w'.cell? ⟨w.heap.size + 1 + 1, 3, none⟩ = some (.bool s_vb) ∧ w'.cell? ⟨w.heap.size + 1 + 1, 4, none⟩ = some (.slice A_vb n_vb c_vb) ∧ w'.cell? ⟨w.heap.size + 1 + 1, 5, none⟩ = some (.slice D_vb m_vb d_vb) := fun w' hb => ⟨(Bx.below' hb).six.1.1, (Bt.below' hb).six.1.1, (Bt.below' hb).six.1.2.1, (Bt.below' hb).six.1.2.2.1, (Bt.below' hb).six.1.2.2.2.1, (Bt.below' hb).six.1.2.2.2.2.1, (Bt.below' hb).six.1.2.2.2.2.2, (Bv.below' hb).six.1.1, (Bv.below' hb).six.1.2.1, (Bv.below' hb).six.1.2.2.1, (Bv.below' hb).six.1.2.2.2.1, (Bv.below' hb).six.1.2.2.2.2.1, (Bv.below' hb).six.1.2.2.2.2.2⟩
  have hP : ∀ (w' : World) (x0 x1 x2 : Value), Below V.heap.size V w' → (fun w' : World => w'.cell? ⟨w.heap.size, 0, none⟩ = some (.int .i64 6) ∧ w'.cell? ⟨w.heap.size + 1 + 1 + 1, 0, none⟩ = some (.bool s_ta) ∧ w'.cell? ⟨w.heap.size + 1 + 1 + 1, 1, none⟩ = some (.slice A_ta n_ta c_ta) ∧ w'.cell? ⟨w.heap.size + 1 + 1 + 1, 2, none⟩ = some (.slice D_ta m_ta d_ta) ∧ w'.cell? ⟨w.heap.size + 1 + 1 + 1, 3, none⟩ = some (.bool s_tb) ∧ w'.cell? ⟨w.heap.size + 1 + 1 + 1, 4, none⟩ = some (.slice A_tb n_tb c_tb) ∧ w'.cell? ⟨w.heap.size + 1 + 1 + 1, 5, none⟩ = some (.slice D_tb m_tb d_tb) ∧ w'.cell? ⟨w.heap.size + 1 + 1, 0, none⟩ = some (.bool s_va) ∧ w'.cell? ⟨w.heap.size + 1 + 1, 1, none⟩ = some (.slice A_va n_va c_va) ∧ w'.cell? ⟨w.heap.size + 1 + 1, 2, none⟩ = some (.slice D_va m_va d_va) ∧ w'.cell? ⟨w.heap.size + 1 + 1, 3, none⟩ = some (.bool s_vb) ∧ w'.cell? ⟨w.heap.size + 1 + 1, 4, none⟩ = some (.slice A_vb n_vb c_vb) ∧ w'.cell? ⟨w.heap.size + 1 + 1, 5, none⟩ = some (.slice D_vb m_vb d_vb)) (put3 w' (w.heap.size + 1 + 1 + 1 + 1) x0 x1 x2) := fun w' x0 x1 x2 hb => by
    obtain ⟨p0, p1, p2, p3, p4, p5, p6, p7, p8, p9, p10, p11, p12⟩ := hS w' hb
    have lx := (Bx.below' hb).lt
    have lv := (Bv.below' hb).lt
    have lt_ := (Bt.below' hb).lt
    exact ⟨(cell_put3 (by omega) (by omega)).trans p0, (cell_put3 (by omega) (by omega)).trans p1, (cell_put3 (by omega) (by omega)).trans p2, (cell_put3 (by omega) (by omega)).trans p3, (cell_put3 (by omega) (by omega)).trans p4, (cell_put3 (by omega) (by omega)).trans p5, (cell_put3 (by omega) (by omega)).trans p6, (cell_put3 (by omega) (by omega)).trans p7, (cell_put3 (by omega) (by omega)).trans p8, (cell_put3 (by omega) (by omega)).trans p9, (cell_put3 (by omega) (by omega)).trans p10, (cell_put3 (by omega) (by omega)).trans p11, (cell_put3 (by omega) (by omega)).trans p12⟩
  simp only [put3] at hP
  have H_ta := Lib.hid (fun (w1 : World) (hb : Below V.heap.size V w1) => q_ta.below (bb hb0 hb))
  have H_tb := Lib.hid (fun (w1 : World) (hb : Below V.heap.size V w1) => q_tb.below (bb hb0 hb))
  have H_va := Lib.hid (fun (w1 : World) (hb : Below V.heap.size V w1) => q_va.below (bb hb0 hb))
  have H_vb := Lib.hid (fun (w1 : World) (hb : Below V.heap.size V w1) => q_vb.below (bb hb0 hb))
  have HS := Lib.hid hS
  have HP := Lib.hid hP
  have HBr := Lib.hid Br
  have HW := Lib.hid hW
  clear hS hP Bx By Bv Bt Br hW q_y q_va q_vb q_ta q_tb
  go_enter Tryz.func69, Tryz.ntmps69
  go_wp2_with fail
  rw [HW.out]
  obtain ⟨p0, p1, p2, p3, p4, p5, p6, p7, p8, p9, p10, p11, p12⟩ := HS.out _ (Below.refl _ V)
  go_region_held3 (fun w' => w'.cell? ⟨w.heap.size, 0, none⟩ = some (.int .i64 6) ∧ w'.cell? ⟨w.heap.size + 1 + 1 + 1, 0, none⟩ = some (.bool s_ta) ∧ w'.cell? ⟨w.heap.size + 1 + 1 + 1, 1, none⟩ = some (.slice A_ta n_ta c_ta) ∧ w'.cell? ⟨w.heap.size + 1 + 1 + 1, 2, none⟩ = some (.slice D_ta m_ta d_ta) ∧ w'.cell? ⟨w.heap.size + 1 + 1 + 1, 3, none⟩ = some (.bool s_tb) ∧ w'.cell? ⟨w.heap.size + 1 + 1 + 1, 4, none⟩ = some (.slice A_tb n_tb c_tb) ∧ w'.cell? ⟨w.heap.size + 1 + 1 + 1, 5, none⟩ = some (.slice D_tb m_tb d_tb) ∧ w'.cell? ⟨w.heap.size + 1 + 1, 0, none⟩ = some (.bool s_va) ∧ w'.cell? ⟨w.heap.size + 1 + 1, 1, none⟩ = some (.slice A_va n_va c_va) ∧ w'.cell? ⟨w.heap.size + 1 + 1, 2, none⟩ = some (.slice D_va m_va d_va) ∧ w'.cell? ⟨w.heap.size + 1 + 1, 3, none⟩ = some (.bool s_vb) ∧ w'.cell? ⟨w.heap.size + 1 + 1, 4, none⟩ = some (.slice A_vb n_vb c_vb) ∧ w'.cell? ⟨w.heap.size + 1 + 1, 5, none⟩ = some (.slice D_vb m_vb d_vb)) (first | with_reducible exact HS.out _ (Below.refl _ V).drew | with_reducible exact HS4.out | with_reducible exact HS.out _ x3 | with_reducible exact HS.out _ x2 | with_reducible exact HS.out _ x1 | fail)
    (first
      | (go_at_call 22; (with_reducible refine (ref_qmul ?h1 ?h2 z_ta z_vb (by omega)).mono ?_); (case h1 => exact H_ta.out _ (Below.refl _ V).drew); (case h2 => exact H_vb.out _ (Below.refl _ V).drew); rintro _ w1 ⟨s1, A1, n1, c1, E1, m1, d1, rfl, q1, b1⟩; have x1 : Below V.heap.size V w1 := Below.undrew b1)
      | (go_at_call 22; (with_reducible refine (ref_qmul (H_va.out _ x1) (H_tb.out _ x1) z_va z_tb (by omega)).mono ?_); rintro _ w2 ⟨s2, A2, n2, c2, E2, m2, d2, rfl, q2, b2⟩; have x2 := bb x1 b2)
      | (go_at_call 21; (with_reducible refine (ref_qadd (q1.below b2) q2 (z_ta.mul z_vb) (z_va.mul z_tb) (by omega)).mono ?_); rintro _ w3 ⟨s3, A3, n3, c3, E3, m3, d3, rfl, q3, b3⟩; have x3 := bb x2 b3; have HS4 := Lib.hid (HP.out w3 (.bool s3) (.slice A3 n3 c3) (.slice E3 m3 d3) x3); have B9 := HBr.out.below' x3; obtain ⟨⟨r0, r1, r2⟩, f0, f1, f2⟩ := B9.three))
  all_goals
    go_wp2_with fail
    refine bodyPost_ret (v := .tuple #[.agg #[.bool s3, .slice A3 n3 c3, .slice E3 m3 d3], .int .i64 0]) (by simp [results, Tryz.results69, go_sem, r0, r1, r2]) rfl ?_
    exact ⟨_, _, _, _, _, _, _, rfl, q3.put3 ⟨_, _, _, _, _, _, _, B9⟩, below_put3 (bb hb0 x3) (by omega) (Nat.le_refl _) _ _ _⟩

theorem two_boxes {t : TypeId} {V : World} {k : Nat} (hk : V.heap.size = k) (vs us : Array Value) : Box t ((V.alloc (.cells vs t)).alloc (.cells us t)).drew k vs ∧ Box t ((V.alloc (.cells vs t)).alloc (.cells us t)).drew (k + 1) us ∧ Below V.heap.size V ((V.alloc (.cells vs t)).alloc (.cells us t)).drew := by
  obtain ⟨W, h, h1, h2, h3⟩ := boxes1 t V vs us
  rw [hk] at h1 h2
  rw [h]
  exact ⟨h1, h2, h3.drew⟩

set_option maxRecDepth 100000 in
set_option maxHeartbeats 8000000 in
theorem al_log {w : World} {s_y : Bool} {A_y D_y : Option Addr} {n_y c_y m_y d_y : Nat} {X_y : Rat} {s_va : Bool} {A_va D_va : Option Addr} {n_va c_va m_va d_va : Nat} {X_va : Rat} {s_vb : Bool} {A_vb D_vb : Option Addr} {n_vb c_vb m_vb d_vb : Nat} {X_vb : Rat} {s_ta : Bool} {A_ta D_ta : Option Addr} {n_ta c_ta m_ta d_ta : Nat} {X_ta : Rat} {s_tb : Bool} {A_tb D_tb : Option Addr} {n_tb c_tb m_tb d_tb : Nat} {X_tb : Rat} {q : RQ} {a b : Int} (q_y : Q w s_y A_y n_y c_y D_y m_y d_y X_y) (z_y : Sz X_y 64) (q_va : Q w s_va A_va n_va c_va D_va m_va d_va X_va) (z_va : Sz X_va 64) (q_vb : Q w s_vb A_vb n_vb c_vb D_vb m_vb d_vb X_vb) (z_vb : Sz X_vb 64) (q_ta : Q w s_ta A_ta n_ta c_ta D_ta m_ta d_ta X_ta) (z_ta : Sz X_ta 64) (q_tb : Q w s_tb A_tb n_tb c_tb D_tb m_tb d_tb X_tb) (z_tb : Sz X_tb 64) (h0 : X_va ≠ 0) :
    Calls Tryz.prog 69 #[.agg #[.int .i64 10, .int .i64 a, .int .i64 b, .bool q.s, .slice q.A q.n q.c, .slice q.A' q.n' q.c'], .agg #[.bool s_y, .slice A_y n_y c_y, .slice D_y m_y d_y], .agg #[.bool s_va, .slice A_va n_va c_va, .slice D_va m_va d_va, .bool s_vb, .slice A_vb n_vb c_vb, .slice D_vb m_vb d_vb], .agg #[.bool s_ta, .slice A_ta n_ta c_ta, .slice D_ta m_ta d_ta, .bool s_tb, .slice A_tb n_tb c_tb, .slice D_tb m_tb d_tb]] w (RetQE (X_ta / X_va) 0 w) := by
  obtain ⟨V, hW, Bx, By, Bv, Bt, Br, hb0, hsz⟩ := boxesV 52 45 74 74 45 w #[.int .i64 10, .int .i64 a, .int .i64 b, .bool q.s, .slice q.A q.n q.c, .slice q.A' q.n' q.c'] #[.bool s_y, .slice A_y n_y c_y, .slice D_y m_y d_y] #[.bool s_va, .slice A_va n_va c_va, .slice D_va m_va d_va, .bool s_vb, .slice A_vb n_vb c_vb, .slice D_vb m_vb d_vb] #[.bool s_ta, .slice A_ta n_ta c_ta, .slice D_ta m_ta d_ta, .bool s_tb, .slice A_tb n_tb c_tb, .slice D_tb m_tb d_tb] #[.bool false, .slice none 0 0, .slice none 0 0]
  have hS : ∀ w', Below V.heap.size V w' → w'.cell? ⟨w.heap.size, 0, none⟩ = some (.int .i64 10) ∧ w'.cell? ⟨w.heap.size + 1, 0, none⟩ = some (.bool s_y) ∧ w'.cell? ⟨w.heap.size + 1, 1, none⟩ = some (.slice A_y n_y c_y) ∧ w'.cell? ⟨w.heap.size + 1, 2, none⟩ = some (.slice D_y m_y d_y) ∧ w'.cell? ⟨w.heap.size + 1 + 1 + 1, 0, none⟩ = some (.bool s_ta) ∧ w'.cell? ⟨w.heap.size + 1 + 1 + 1, 1, none⟩ = some (.slice A_ta n_ta c_ta) ∧ w'.cell? ⟨w.heap.size + 1 + 1 + 1, 2, none⟩ = some (.slice D_ta m_ta d_ta) ∧ w'.cell? ⟨w.heap.size + 1 + 1 + 1, 3, none⟩ = some (.bool s_tb) ∧ w'.cell? ⟨w.heap.size + 1 + 1 + 1, 4, none⟩ = some (.slice A_tb n_tb c_tb) ∧ w'.cell? ⟨w.heap.size + 1 + 1 + 1, 5, none⟩ = some (.slice D_tb m_tb d_tb) ∧ w'.cell? ⟨w.heap.size + 1 + 1, 0, none⟩ = some (.bool s_va) ∧ w'.cell? ⟨w.heap.size + 1 + 1, 1, none⟩ = some (.slice A_va n_va c_va) ∧ w'.cell? ⟨w.heap.size + 1 + 1, 2, none⟩ = some (.slice D_va m_va d_va) ∧ w'.cell? ⟨w.heap.size + 1 + 1, 3, none⟩ = some (.bool s_vb) ∧ w'.cell? ⟨w.heap.size + 1 + 1, 4, none⟩ = some (.slice A_vb n_vb c_vb) ∧ w'.cell? ⟨w.heap.size + 1 + 1, 5, none⟩ = some (.slice D_vb m_vb d_vb) := fun w' hb => ⟨(Bx.below' hb).six.1.1, (By.below' hb).three.1.1, (By.below' hb).three.1.2.1, (By.below' hb).three.1.2.2, (Bt.below' hb).six.1.1, (Bt.below' hb).six.1.2.1, (Bt.below' hb).six.1.2.2.1, (Bt.below' hb).six.1.2.2.2.1, (Bt.below' hb).six.1.2.2.2.2.1, (Bt.below' hb).six.1.2.2.2.2.2, (Bv.below' hb).six.1.1, (Bv.below' hb).six.1.2.1, (Bv.below' hb).six.1.2.2.1, (Bv.below' hb).six.1.2.2.2.1, (Bv.below' hb).six.1.2.2.2.2.1, (Bv.below' hb).six.1.2.2.2.2.2⟩
  have H_y := Lib.hid (fun (w1 : World) (hb : Below V.heap.size V w1) => q_y.below (bb hb0 hb))
  have H_ta := Lib.hid (fun (w1 : World) (hb : Below V.heap.size V w1) => q_ta.below (bb hb0 hb))
  have H_tb := Lib.hid (fun (w1 : World) (hb : Below V.heap.size V w1) => q_tb.below (bb hb0 hb))
  have H_va := Lib.hid (fun (w1 : World) (hb : Below V.heap.size V w1) => q_va.below (bb hb0 hb))
  have H_vb := Lib.hid (fun (w1 : World) (hb : Below V.heap.size V w1) => q_vb.below (bb hb0 hb))
  have HS := Lib.hid hS
  have HBr := Lib.hid Br
  have HW := Lib.hid hW
  have HZ := Lib.hid (show decide (X_va = 0) = false from decide_eq_false h0)
  have HN := Lib.hid h0
  clear hS Bx By Bv Bt Br hW h0 q_y q_va q_vb q_ta q_tb
  go_enter Tryz.func69, Tryz.ntmps69
  go_upto_region 11 with (fail)
  rw [HW.out]
  obtain ⟨p0, p1, p2, p3, p4, p5, p6, p7, p8, p9, p10, p11, p12, p13, p14, p15⟩ := HS.out _ (Below.refl _ V)
  go_cut [10, 11] (fun s10 s11 wx => ∃ g1 g2 : Nat, s10 = .pointer (some ⟨g1, 0, none⟩) ∧ s11 = .pointer (some ⟨g2, 0, none⟩) ∧ g1 ≠ g2 ∧ V.heap.size ≤ g1 ∧ V.heap.size ≤ g2 ∧ Box 45 wx g1 #[.bool s_ta, .slice A_ta n_ta c_ta, .slice D_ta m_ta d_ta] ∧ Box 45 wx g2 #[.bool s_va, .slice A_va n_va c_va, .slice D_va m_va d_va] ∧ Below V.heap.size V wx)
  case first =>
    go_region
    all_goals
      go_wp2_with fail
      go_meet
      first
        | (obtain ⟨t1, t2, t3⟩ := two_boxes (t := 45) hsz #[.bool s_ta, .slice A_ta n_ta c_ta, .slice D_ta m_ta d_ta] #[.bool s_va, .slice A_va n_va c_va, .slice D_va m_va d_va]; exact ⟨_, _, rfl, rfl, by omega, by omega, by omega, t1, t2, t3⟩)
        | (obtain ⟨t1, t2, t3⟩ := two_boxes (t := 45) hsz #[.bool s_va, .slice A_va n_va c_va, .slice D_va m_va d_va] #[.bool s_ta, .slice A_ta n_ta c_ta, .slice D_ta m_ta d_ta]; exact ⟨_, _, rfl, rfl, by omega, by omega, by omega, t2, t1, t3⟩)
  case rest =>
    obtain ⟨g1, g2, rfl, rfl, hne, hg1, hg2, C1, C2, x0⟩ := hcut
    obtain ⟨p0, p1, p2, p3, p4, p5, p6, p7, p8, p9, p10, p11, p12, p13, p14, p15⟩ := HS.out _ x0
    have HC1 := Lib.hid C1
    have HC2 := Lib.hid C2
    obtain ⟨⟨a0, a1, a2⟩, a3, a4, a5⟩ := C1.three
    obtain ⟨⟨e0, e1, e2⟩, e3, e4, e5⟩ := C2.three
    clear C1 C2
    go_wp2_with fail
    with_reducible refine (ref_zeroE (H_va.out _ x0) z_va false HZ.out).mono ?_
    rintro _ w1 ⟨rfl, b1⟩
    have x1 : Below V.heap.size V w1 := bb x0 b1
    obtain ⟨⟨a0, a1, a2⟩, a3, a4, a5⟩ := (HC1.out.below' b1).three
    obtain ⟨⟨e0, e1, e2⟩, e3, e4, e5⟩ := (HC2.out.below' b1).three
    go_wp2_with fail
    with_reducible refine (ref_qdiv (N := 64) ((H_ta.out _ x0).below b1) ((H_va.out _ x0).below b1) (z_ta) (z_va) (by omega) HN.out).mono ?_
    rintro _ w2 ⟨s2, A2, n2, c2, E2, m2, d2, rfl, q2, b2⟩
    have x2 : Below V.heap.size V w2 := bb x1 b2
    have B9 := HBr.out.below' x2
    obtain ⟨⟨r0, r1, r2⟩, f0, f1, f2⟩ := B9.three
    go_wp2_with fail
    refine bodyPost_ret (v := .tuple #[.agg #[.bool s2, .slice A2 n2 c2, .slice E2 m2 d2], .int .i64 0]) (by simp [results, Tryz.results69, go_sem, r0, r1, r2]) rfl ?_
    exact ⟨_, _, _, _, _, _, _, rfl, q2.put3 ⟨_, _, _, _, _, _, _, B9⟩, below_put3 (bb hb0 x2) (by omega) (Nat.le_refl _) _ _ _⟩

set_option maxRecDepth 100000 in
set_option maxHeartbeats 8000000 in
theorem al_sqrt {w : World} {s_y : Bool} {A_y D_y : Option Addr} {n_y c_y m_y d_y : Nat} {X_y : Rat} {s_va : Bool} {A_va D_va : Option Addr} {n_va c_va m_va d_va : Nat} {X_va : Rat} {s_vb : Bool} {A_vb D_vb : Option Addr} {n_vb c_vb m_vb d_vb : Nat} {X_vb : Rat} {s_ta : Bool} {A_ta D_ta : Option Addr} {n_ta c_ta m_ta d_ta : Nat} {X_ta : Rat} {s_tb : Bool} {A_tb D_tb : Option Addr} {n_tb c_tb m_tb d_tb : Nat} {X_tb : Rat} {q : RQ} {a b : Int} (q_y : Q w s_y A_y n_y c_y D_y m_y d_y X_y) (z_y : Sz X_y 64) (q_va : Q w s_va A_va n_va c_va D_va m_va d_va X_va) (z_va : Sz X_va 64) (q_vb : Q w s_vb A_vb n_vb c_vb D_vb m_vb d_vb X_vb) (z_vb : Sz X_vb 64) (q_ta : Q w s_ta A_ta n_ta c_ta D_ta m_ta d_ta X_ta) (z_ta : Sz X_ta 64) (q_tb : Q w s_tb A_tb n_tb c_tb D_tb m_tb d_tb X_tb) (z_tb : Sz X_tb 64) (h0 : X_y + X_y ≠ 0) :
    Calls Tryz.prog 69 #[.agg #[.int .i64 8, .int .i64 a, .int .i64 b, .bool q.s, .slice q.A q.n q.c, .slice q.A' q.n' q.c'], .agg #[.bool s_y, .slice A_y n_y c_y, .slice D_y m_y d_y], .agg #[.bool s_va, .slice A_va n_va c_va, .slice D_va m_va d_va, .bool s_vb, .slice A_vb n_vb c_vb, .slice D_vb m_vb d_vb], .agg #[.bool s_ta, .slice A_ta n_ta c_ta, .slice D_ta m_ta d_ta, .bool s_tb, .slice A_tb n_tb c_tb, .slice D_tb m_tb d_tb]] w (RetQE (X_ta / (X_y + X_y)) 0 w) := by
  obtain ⟨V, hW, Bx, By, Bv, Bt, Br, hb0, hsz⟩ := boxesV 52 45 74 74 45 w #[.int .i64 8, .int .i64 a, .int .i64 b, .bool q.s, .slice q.A q.n q.c, .slice q.A' q.n' q.c'] #[.bool s_y, .slice A_y n_y c_y, .slice D_y m_y d_y] #[.bool s_va, .slice A_va n_va c_va, .slice D_va m_va d_va, .bool s_vb, .slice A_vb n_vb c_vb, .slice D_vb m_vb d_vb] #[.bool s_ta, .slice A_ta n_ta c_ta, .slice D_ta m_ta d_ta, .bool s_tb, .slice A_tb n_tb c_tb, .slice D_tb m_tb d_tb] #[.bool false, .slice none 0 0, .slice none 0 0]
  have hS : ∀ w', Below V.heap.size V w' → w'.cell? ⟨w.heap.size, 0, none⟩ = some (.int .i64 8) ∧ w'.cell? ⟨w.heap.size + 1, 0, none⟩ = some (.bool s_y) ∧ w'.cell? ⟨w.heap.size + 1, 1, none⟩ = some (.slice A_y n_y c_y) ∧ w'.cell? ⟨w.heap.size + 1, 2, none⟩ = some (.slice D_y m_y d_y) ∧ w'.cell? ⟨w.heap.size + 1 + 1 + 1, 0, none⟩ = some (.bool s_ta) ∧ w'.cell? ⟨w.heap.size + 1 + 1 + 1, 1, none⟩ = some (.slice A_ta n_ta c_ta) ∧ w'.cell? ⟨w.heap.size + 1 + 1 + 1, 2, none⟩ = some (.slice D_ta m_ta d_ta) ∧ w'.cell? ⟨w.heap.size + 1 + 1 + 1, 3, none⟩ = some (.bool s_tb) ∧ w'.cell? ⟨w.heap.size + 1 + 1 + 1, 4, none⟩ = some (.slice A_tb n_tb c_tb) ∧ w'.cell? ⟨w.heap.size + 1 + 1 + 1, 5, none⟩ = some (.slice D_tb m_tb d_tb) ∧ w'.cell? ⟨w.heap.size + 1 + 1, 0, none⟩ = some (.bool s_va) ∧ w'.cell? ⟨w.heap.size + 1 + 1, 1, none⟩ = some (.slice A_va n_va c_va) ∧ w'.cell? ⟨w.heap.size + 1 + 1, 2, none⟩ = some (.slice D_va m_va d_va) ∧ w'.cell? ⟨w.heap.size + 1 + 1, 3, none⟩ = some (.bool s_vb) ∧ w'.cell? ⟨w.heap.size + 1 + 1, 4, none⟩ = some (.slice A_vb n_vb c_vb) ∧ w'.cell? ⟨w.heap.size + 1 + 1, 5, none⟩ = some (.slice D_vb m_vb d_vb) := fun w' hb => ⟨(Bx.below' hb).six.1.1, (By.below' hb).three.1.1, (By.below' hb).three.1.2.1, (By.below' hb).three.1.2.2, (Bt.below' hb).six.1.1, (Bt.below' hb).six.1.2.1, (Bt.below' hb).six.1.2.2.1, (Bt.below' hb).six.1.2.2.2.1, (Bt.below' hb).six.1.2.2.2.2.1, (Bt.below' hb).six.1.2.2.2.2.2, (Bv.below' hb).six.1.1, (Bv.below' hb).six.1.2.1, (Bv.below' hb).six.1.2.2.1, (Bv.below' hb).six.1.2.2.2.1, (Bv.below' hb).six.1.2.2.2.2.1, (Bv.below' hb).six.1.2.2.2.2.2⟩
  have H_y := Lib.hid (fun (w1 : World) (hb : Below V.heap.size V w1) => q_y.below (bb hb0 hb))
  have H_ta := Lib.hid (fun (w1 : World) (hb : Below V.heap.size V w1) => q_ta.below (bb hb0 hb))
  have H_tb := Lib.hid (fun (w1 : World) (hb : Below V.heap.size V w1) => q_tb.below (bb hb0 hb))
  have H_va := Lib.hid (fun (w1 : World) (hb : Below V.heap.size V w1) => q_va.below (bb hb0 hb))
  have H_vb := Lib.hid (fun (w1 : World) (hb : Below V.heap.size V w1) => q_vb.below (bb hb0 hb))
  have HS := Lib.hid hS
  have HBr := Lib.hid Br
  have HW := Lib.hid hW
  have HZ := Lib.hid (show decide (X_y + X_y = 0) = false from decide_eq_false h0)
  have HN := Lib.hid h0
  clear hS Bx By Bv Bt Br hW h0 q_y q_va q_vb q_ta q_tb
  go_enter Tryz.func69, Tryz.ntmps69
  go_upto_region 11 with (fail)
  rw [HW.out]
  obtain ⟨p0, p1, p2, p3, p4, p5, p6, p7, p8, p9, p10, p11, p12, p13, p14, p15⟩ := HS.out _ (Below.refl _ V)
  go_cut [10, 11] (fun s10 s11 wx => ∃ g1 g2 : Nat, s10 = .pointer (some ⟨g1, 0, none⟩) ∧ s11 = .pointer (some ⟨g2, 0, none⟩) ∧ g1 ≠ g2 ∧ V.heap.size ≤ g1 ∧ V.heap.size ≤ g2 ∧ Box 45 wx g1 #[.bool s_ta, .slice A_ta n_ta c_ta, .slice D_ta m_ta d_ta] ∧ Box 45 wx g2 #[.bool s_va, .slice A_va n_va c_va, .slice D_va m_va d_va] ∧ Below V.heap.size V wx)
  case first =>
    go_region
    all_goals
      go_wp2_with fail
      go_meet
      first
        | (obtain ⟨t1, t2, t3⟩ := two_boxes (t := 45) hsz #[.bool s_ta, .slice A_ta n_ta c_ta, .slice D_ta m_ta d_ta] #[.bool s_va, .slice A_va n_va c_va, .slice D_va m_va d_va]; exact ⟨_, _, rfl, rfl, by omega, by omega, by omega, t1, t2, t3⟩)
        | (obtain ⟨t1, t2, t3⟩ := two_boxes (t := 45) hsz #[.bool s_va, .slice A_va n_va c_va, .slice D_va m_va d_va] #[.bool s_ta, .slice A_ta n_ta c_ta, .slice D_ta m_ta d_ta]; exact ⟨_, _, rfl, rfl, by omega, by omega, by omega, t2, t1, t3⟩)
  case rest =>
    obtain ⟨g1, g2, rfl, rfl, hne, hg1, hg2, C1, C2, x0⟩ := hcut
    obtain ⟨p0, p1, p2, p3, p4, p5, p6, p7, p8, p9, p10, p11, p12, p13, p14, p15⟩ := HS.out _ x0
    have HC1 := Lib.hid C1
    have HC2 := Lib.hid C2
    obtain ⟨⟨a0, a1, a2⟩, a3, a4, a5⟩ := C1.three
    obtain ⟨⟨e0, e1, e2⟩, e3, e4, e5⟩ := C2.three
    clear C1 C2
    go_wp2_with fail
    with_reducible refine (rf_twice (H_y.out _ x0) z_y (by omega)).mono ?_
    rintro _ w1 ⟨s1, A1, n1, c1, E1, m1, d1, rfl, q1, b1⟩
    have x1 : Below V.heap.size V w1 := bb x0 b1
    have D1' := HC1.out.below' b1
    have D2' := HC2.out.below' b1
    obtain ⟨⟨e0, e1, e2⟩, e3, e4, e5⟩ := D2'.three
    go_upto_region 17 with (fail)
    obtain ⟨w2, hV2⟩ : ∃ W, ((w1.setCell ⟨g2, 0, none⟩ (.bool s1)).setCell ⟨g2, 1, none⟩ (.slice A1 n1 c1)).setCell ⟨g2, 2, none⟩ (.slice E1 m1 d1) = W := ⟨_, rfl⟩
    rw [hV2]
    have D2 : Box 45 w2 g2 #[.bool s1, .slice A1 n1 c1, .slice E1 m1 d1] := by rw [← hV2]; exact box_self D2' _ _ _
    have D1 : Box 45 w2 g1 #[.bool s_ta, .slice A_ta n_ta c_ta, .slice D_ta m_ta d_ta] := by rw [← hV2]; exact D1'.put3 hne _ _ _
    have x2 : Below V.heap.size V w2 := by rw [← hV2]; exact below_put3 x1 hg2 (Nat.le_refl _) _ _ _
    have q2 : Q w2 s1 A1 n1 c1 E1 m1 d1 (X_y + X_y) := by rw [← hV2]; exact q1.put3 (x0 := .bool s1) (x1 := .slice A1 n1 c1) (x2 := .slice E1 m1 d1) ⟨_, _, _, _, _, _, _, D2'⟩
    have HD1 := Lib.hid D1
    have HD2 := Lib.hid D2
    obtain ⟨⟨a0, a1, a2⟩, a3, a4, a5⟩ := D1.three
    obtain ⟨⟨e0, e1, e2⟩, e3, e4, e5⟩ := D2.three
    clear D1 D2 D1' D2' hV2
    go_wp2_with fail
    with_reducible refine (ref_zeroE q2 (z_y.add z_y) false HZ.out).mono ?_
    rintro _ w3 ⟨rfl, b3⟩
    have x3 : Below V.heap.size V w3 := bb x2 b3
    obtain ⟨⟨a0, a1, a2⟩, a3, a4, a5⟩ := (HD1.out.below' b3).three
    obtain ⟨⟨e0, e1, e2⟩, e3, e4, e5⟩ := (HD2.out.below' b3).three
    go_wp2_with fail
    with_reducible refine (ref_qdiv (N := 129) ((H_ta.out _ x2).below b3) (q2.below b3) (z_ta.mono (by omega)) (z_y.add z_y) (by omega) HN.out).mono ?_
    rintro _ w4 ⟨s4, A4, n4, c4, E4, m4, d4, rfl, q4, b4⟩
    have x4 : Below V.heap.size V w4 := bb x3 b4
    have B9 := HBr.out.below' x4
    obtain ⟨⟨r0, r1, r2⟩, f0, f1, f2⟩ := B9.three
    go_wp2_with fail
    refine bodyPost_ret (v := .tuple #[.agg #[.bool s4, .slice A4 n4 c4, .slice E4 m4 d4], .int .i64 0]) (by simp [results, Tryz.results69, go_sem, r0, r1, r2]) rfl ?_
    exact ⟨_, _, _, _, _, _, _, rfl, q4.put3 ⟨_, _, _, _, _, _, _, B9⟩, below_put3 (bb hb0 x4) (by omega) (Nat.le_refl _) _ _ _⟩

set_option maxRecDepth 100000 in
set_option maxHeartbeats 8000000 in
theorem al_div {w : World} {s_y : Bool} {A_y D_y : Option Addr} {n_y c_y m_y d_y : Nat} {X_y : Rat} {s_va : Bool} {A_va D_va : Option Addr} {n_va c_va m_va d_va : Nat} {X_va : Rat} {s_vb : Bool} {A_vb D_vb : Option Addr} {n_vb c_vb m_vb d_vb : Nat} {X_vb : Rat} {s_ta : Bool} {A_ta D_ta : Option Addr} {n_ta c_ta m_ta d_ta : Nat} {X_ta : Rat} {s_tb : Bool} {A_tb D_tb : Option Addr} {n_tb c_tb m_tb d_tb : Nat} {X_tb : Rat} {q : RQ} {a b : Int} (q_y : Q w s_y A_y n_y c_y D_y m_y d_y X_y) (z_y : Sz X_y 64) (q_va : Q w s_va A_va n_va c_va D_va m_va d_va X_va) (z_va : Sz X_va 64) (q_vb : Q w s_vb A_vb n_vb c_vb D_vb m_vb d_vb X_vb) (z_vb : Sz X_vb 64) (q_ta : Q w s_ta A_ta n_ta c_ta D_ta m_ta d_ta X_ta) (z_ta : Sz X_ta 64) (q_tb : Q w s_tb A_tb n_tb c_tb D_tb m_tb d_tb X_tb) (z_tb : Sz X_tb 64) (h0 : X_vb ≠ 0) :
    Calls Tryz.prog 69 #[.agg #[.int .i64 7, .int .i64 a, .int .i64 b, .bool q.s, .slice q.A q.n q.c, .slice q.A' q.n' q.c'], .agg #[.bool s_y, .slice A_y n_y c_y, .slice D_y m_y d_y], .agg #[.bool s_va, .slice A_va n_va c_va, .slice D_va m_va d_va, .bool s_vb, .slice A_vb n_vb c_vb, .slice D_vb m_vb d_vb], .agg #[.bool s_ta, .slice A_ta n_ta c_ta, .slice D_ta m_ta d_ta, .bool s_tb, .slice A_tb n_tb c_tb, .slice D_tb m_tb d_tb]] w (RetQE ((X_ta - X_y * X_tb) / X_vb) 0 w) := by
  obtain ⟨V, hW, Bx, By, Bv, Bt, Br, hb0, hsz⟩ := boxesV 52 45 74 74 45 w #[.int .i64 7, .int .i64 a, .int .i64 b, .bool q.s, .slice q.A q.n q.c, .slice q.A' q.n' q.c'] #[.bool s_y, .slice A_y n_y c_y, .slice D_y m_y d_y] #[.bool s_va, .slice A_va n_va c_va, .slice D_va m_va d_va, .bool s_vb, .slice A_vb n_vb c_vb, .slice D_vb m_vb d_vb] #[.bool s_ta, .slice A_ta n_ta c_ta, .slice D_ta m_ta d_ta, .bool s_tb, .slice A_tb n_tb c_tb, .slice D_tb m_tb d_tb] #[.bool false, .slice none 0 0, .slice none 0 0]
  have hS : ∀ w', Below V.heap.size V w' → w'.cell? ⟨w.heap.size, 0, none⟩ = some (.int .i64 7) ∧ w'.cell? ⟨w.heap.size + 1, 0, none⟩ = some (.bool s_y) ∧ w'.cell? ⟨w.heap.size + 1, 1, none⟩ = some (.slice A_y n_y c_y) ∧ w'.cell? ⟨w.heap.size + 1, 2, none⟩ = some (.slice D_y m_y d_y) ∧ w'.cell? ⟨w.heap.size + 1 + 1 + 1, 0, none⟩ = some (.bool s_ta) ∧ w'.cell? ⟨w.heap.size + 1 + 1 + 1, 1, none⟩ = some (.slice A_ta n_ta c_ta) ∧ w'.cell? ⟨w.heap.size + 1 + 1 + 1, 2, none⟩ = some (.slice D_ta m_ta d_ta) ∧ w'.cell? ⟨w.heap.size + 1 + 1 + 1, 3, none⟩ = some (.bool s_tb) ∧ w'.cell? ⟨w.heap.size + 1 + 1 + 1, 4, none⟩ = some (.slice A_tb n_tb c_tb) ∧ w'.cell? ⟨w.heap.size + 1 + 1 + 1, 5, none⟩ = some (.slice D_tb m_tb d_tb) ∧ w'.cell? ⟨w.heap.size + 1 + 1, 0, none⟩ = some (.bool s_va) ∧ w'.cell? ⟨w.heap.size + 1 + 1, 1, none⟩ = some (.slice A_va n_va c_va) ∧ w'.cell? ⟨w.heap.size + 1 + 1, 2, none⟩ = some (.slice D_va m_va d_va) ∧ w'.cell? ⟨w.heap.size + 1 + 1, 3, none⟩ = some (.bool s_vb) ∧ w'.cell? ⟨w.heap.size + 1 + 1, 4, none⟩ = some (.slice A_vb n_vb c_vb) ∧ w'.cell? ⟨w.heap.size + 1 + 1, 5, none⟩ = some (.slice D_vb m_vb d_vb) := fun w' hb => ⟨(Bx.below' hb).six.1.1, (By.below' hb).three.1.1, (By.below' hb).three.1.2.1, (By.below' hb).three.1.2.2, (Bt.below' hb).six.1.1, (Bt.below' hb).six.1.2.1, (Bt.below' hb).six.1.2.2.1, (Bt.below' hb).six.1.2.2.2.1, (Bt.below' hb).six.1.2.2.2.2.1, (Bt.below' hb).six.1.2.2.2.2.2, (Bv.below' hb).six.1.1, (Bv.below' hb).six.1.2.1, (Bv.below' hb).six.1.2.2.1, (Bv.below' hb).six.1.2.2.2.1, (Bv.below' hb).six.1.2.2.2.2.1, (Bv.below' hb).six.1.2.2.2.2.2⟩
  have H_y := Lib.hid (fun (w1 : World) (hb : Below V.heap.size V w1) => q_y.below (bb hb0 hb))
  have H_ta := Lib.hid (fun (w1 : World) (hb : Below V.heap.size V w1) => q_ta.below (bb hb0 hb))
  have H_tb := Lib.hid (fun (w1 : World) (hb : Below V.heap.size V w1) => q_tb.below (bb hb0 hb))
  have H_va := Lib.hid (fun (w1 : World) (hb : Below V.heap.size V w1) => q_va.below (bb hb0 hb))
  have H_vb := Lib.hid (fun (w1 : World) (hb : Below V.heap.size V w1) => q_vb.below (bb hb0 hb))
  have HS := Lib.hid hS
  have HBr := Lib.hid Br
  have HW := Lib.hid hW
  have HZ := Lib.hid (show decide (X_vb = 0) = false from decide_eq_false h0)
  have HN := Lib.hid h0
  clear hS Bx By Bv Bt Br hW h0 q_y q_va q_vb q_ta q_tb
  go_enter Tryz.func69, Tryz.ntmps69
  go_upto_region 11 with (fail)
  rw [HW.out]
  obtain ⟨p0, p1, p2, p3, p4, p5, p6, p7, p8, p9, p10, p11, p12, p13, p14, p15⟩ := HS.out _ (Below.refl _ V)
  go_cut [10, 11] (fun s10 s11 wx => ∃ g1 g2 : Nat, s10 = .pointer (some ⟨g1, 0, none⟩) ∧ s11 = .pointer (some ⟨g2, 0, none⟩) ∧ g1 ≠ g2 ∧ V.heap.size ≤ g1 ∧ V.heap.size ≤ g2 ∧ Box 45 wx g1 #[.bool s_ta, .slice A_ta n_ta c_ta, .slice D_ta m_ta d_ta] ∧ Box 45 wx g2 #[.bool s_va, .slice A_va n_va c_va, .slice D_va m_va d_va] ∧ Below V.heap.size V wx)
  case first =>
    go_region
    all_goals
      go_wp2_with fail
      go_meet
      first
        | (obtain ⟨t1, t2, t3⟩ := two_boxes (t := 45) hsz #[.bool s_ta, .slice A_ta n_ta c_ta, .slice D_ta m_ta d_ta] #[.bool s_va, .slice A_va n_va c_va, .slice D_va m_va d_va]; exact ⟨_, _, rfl, rfl, by omega, by omega, by omega, t1, t2, t3⟩)
        | (obtain ⟨t1, t2, t3⟩ := two_boxes (t := 45) hsz #[.bool s_va, .slice A_va n_va c_va, .slice D_va m_va d_va] #[.bool s_ta, .slice A_ta n_ta c_ta, .slice D_ta m_ta d_ta]; exact ⟨_, _, rfl, rfl, by omega, by omega, by omega, t2, t1, t3⟩)
  case rest =>
    obtain ⟨g1, g2, rfl, rfl, hne, hg1, hg2, C1, C2, x0⟩ := hcut
    obtain ⟨p0, p1, p2, p3, p4, p5, p6, p7, p8, p9, p10, p11, p12, p13, p14, p15⟩ := HS.out _ x0
    have HC1 := Lib.hid C1
    have HC2 := Lib.hid C2
    obtain ⟨⟨a0, a1, a2⟩, a3, a4, a5⟩ := C1.three
    obtain ⟨⟨e0, e1, e2⟩, e3, e4, e5⟩ := C2.three
    clear C1 C2
    go_upto_region 13 with (fail)
    have HS3 := Lib.hid (show ∀ w', Below V.heap.size V w' → w'.cell? ⟨w.heap.size + 1, 0, none⟩ = some (.bool s_y) ∧ w'.cell? ⟨w.heap.size + 1, 1, none⟩ = some (.slice A_y n_y c_y) ∧ w'.cell? ⟨w.heap.size + 1, 2, none⟩ = some (.slice D_y m_y d_y) ∧ w'.cell? ⟨w.heap.size + 1 + 1 + 1, 0, none⟩ = some (.bool s_ta) ∧ w'.cell? ⟨w.heap.size + 1 + 1 + 1, 1, none⟩ = some (.slice A_ta n_ta c_ta) ∧ w'.cell? ⟨w.heap.size + 1 + 1 + 1, 2, none⟩ = some (.slice D_ta m_ta d_ta) ∧ w'.cell? ⟨w.heap.size + 1 + 1 + 1, 3, none⟩ = some (.bool s_tb) ∧ w'.cell? ⟨w.heap.size + 1 + 1 + 1, 4, none⟩ = some (.slice A_tb n_tb c_tb) ∧ w'.cell? ⟨w.heap.size + 1 + 1 + 1, 5, none⟩ = some (.slice D_tb m_tb d_tb) from fun w' hb => by
      obtain ⟨_, t1, t2, t3, t4, t5, t6, t7, t8, t9, _⟩ := HS.out w' hb
      exact ⟨t1, t2, t3, t4, t5, t6, t7, t8, t9⟩)
    go_region_held3 (fun w' => w'.cell? ⟨w.heap.size + 1, 0, none⟩ = some (.bool s_y) ∧ w'.cell? ⟨w.heap.size + 1, 1, none⟩ = some (.slice A_y n_y c_y) ∧ w'.cell? ⟨w.heap.size + 1, 2, none⟩ = some (.slice D_y m_y d_y) ∧ w'.cell? ⟨w.heap.size + 1 + 1 + 1, 0, none⟩ = some (.bool s_ta) ∧ w'.cell? ⟨w.heap.size + 1 + 1 + 1, 1, none⟩ = some (.slice A_ta n_ta c_ta) ∧ w'.cell? ⟨w.heap.size + 1 + 1 + 1, 2, none⟩ = some (.slice D_ta m_ta d_ta) ∧ w'.cell? ⟨w.heap.size + 1 + 1 + 1, 3, none⟩ = some (.bool s_tb) ∧ w'.cell? ⟨w.heap.size + 1 + 1 + 1, 4, none⟩ = some (.slice A_tb n_tb c_tb) ∧ w'.cell? ⟨w.heap.size + 1 + 1 + 1, 5, none⟩ = some (.slice D_tb m_tb d_tb)) (first | with_reducible exact HS3.out _ x0.drew | exact HS3.out _ (below_put3 x2 hg1 (Nat.le_refl _) _ _ _) | with_reducible exact HS3.out _ x2 | with_reducible exact HS3.out _ x1 | fail)
      (first
        | (go_at_call 22; (with_reducible refine (ref_qmul ?h1 ?h2 z_y z_tb (by omega)).mono ?_); (case h1 => exact H_y.out _ x0.drew); (case h2 => exact H_tb.out _ x0.drew); rintro _ w1 ⟨s1, A1, n1, c1, E1, m1, d1, rfl, q1, b1⟩; have b1 := Below.undrew b1; have x1 : Below V.heap.size V w1 := bb x0 b1)
        | (go_at_call 77; (with_reducible refine (ref_qsub (N := 128) (H_ta.out _ x1) q1 (z_ta.mono (by omega)) (z_y.mul z_tb) (by omega)).mono ?_); rintro _ w2 ⟨s2, A2, n2, c2, E2, m2, d2, rfl, q2, b2⟩; have x2 : Below V.heap.size V w2 := bb x1 b2; have D1' := HC1.out.below' (bb b1 b2); have D2' := HC2.out.below' (bb b1 b2); obtain ⟨⟨a0, a1, a2⟩, a3, a4, a5⟩ := D1'.three))
    all_goals
      obtain ⟨w3, hV3⟩ : ∃ W, ((w2.setCell ⟨g1, 0, none⟩ (.bool s2)).setCell ⟨g1, 1, none⟩ (.slice A2 n2 c2)).setCell ⟨g1, 2, none⟩ (.slice E2 m2 d2) = W := ⟨_, rfl⟩
      rw [hV3]
      have D1 : Box 45 w3 g1 #[.bool s2, .slice A2 n2 c2, .slice E2 m2 d2] := by rw [← hV3]; exact box_self D1' _ _ _
      have D2 : Box 45 w3 g2 #[.bool s_va, .slice A_va n_va c_va, .slice D_va m_va d_va] := by rw [← hV3]; exact D2'.put3 hne.symm _ _ _
      have x3 : Below V.heap.size V w3 := by rw [← hV3]; exact below_put3 x2 hg1 (Nat.le_refl _) _ _ _
      have q3 : Q w3 s2 A2 n2 c2 E2 m2 d2 (X_ta - X_y * X_tb) := by rw [← hV3]; exact q2.put3 (x0 := .bool s2) (x1 := .slice A2 n2 c2) (x2 := .slice E2 m2 d2) ⟨_, _, _, _, _, _, _, D1'⟩
      clear hV3 D1' D2'
      obtain ⟨p0, p1, p2, p3, p4, p5, p6, p7, p8, p9, p10, p11, p12, p13, p14, p15⟩ := HS.out _ x3
      obtain ⟨⟨e0, e1, e2⟩, e3, e4, e5⟩ := D2.three
      go_upto_region 15 with (fail)
      obtain ⟨w4, hV4⟩ : ∃ W, ((w3.setCell ⟨g2, 0, none⟩ (.bool s_vb)).setCell ⟨g2, 1, none⟩ (.slice A_vb n_vb c_vb)).setCell ⟨g2, 2, none⟩ (.slice D_vb m_vb d_vb) = W := ⟨_, rfl⟩
      rw [hV4]
      have F2 : Box 45 w4 g2 #[.bool s_vb, .slice A_vb n_vb c_vb, .slice D_vb m_vb d_vb] := by rw [← hV4]; exact box_self D2 _ _ _
      have F1 : Box 45 w4 g1 #[.bool s2, .slice A2 n2 c2, .slice E2 m2 d2] := by rw [← hV4]; exact D1.put3 hne _ _ _
      have x4 : Below V.heap.size V w4 := by rw [← hV4]; exact below_put3 x3 hg2 (Nat.le_refl _) _ _ _
      have q4 : Q w4 s2 A2 n2 c2 E2 m2 d2 (X_ta - X_y * X_tb) := by rw [← hV4]; exact q3.put3 (x0 := .bool s_vb) (x1 := .slice A_vb n_vb c_vb) (x2 := .slice D_vb m_vb d_vb) ⟨_, _, _, _, _, _, _, D2⟩
      have HD1 := Lib.hid F1
      have HD2 := Lib.hid F2
      obtain ⟨⟨a0, a1, a2⟩, a3, a4, a5⟩ := F1.three
      obtain ⟨⟨e0, e1, e2⟩, e3, e4, e5⟩ := F2.three
      clear F1 F2 D1 D2 hV4
      obtain ⟨p0, p1, p2, p3, p4, p5, p6, p7, p8, p9, p10, p11, p12, p13, p14, p15⟩ := HS.out _ x4
      go_wp2_with fail
      with_reducible refine (ref_zeroE (H_vb.out _ x4) z_vb false HZ.out).mono ?_
      rintro _ w5 ⟨rfl, b5⟩
      have x5 : Below V.heap.size V w5 := bb x4 b5
      obtain ⟨⟨a0, a1, a2⟩, a3, a4, a5⟩ := (HD1.out.below' b5).three
      obtain ⟨⟨e0, e1, e2⟩, e3, e4, e5⟩ := (HD2.out.below' b5).three
      go_wp2_with fail
      with_reducible refine (ref_qdiv (N := 193) (q4.below b5) ((H_vb.out _ x4).below b5) ((z_ta.sub (z_y.mul z_tb)).mono (by omega)) (z_vb.mono (by omega)) (by omega) HN.out).mono ?_
      rintro _ w6 ⟨s6, A6, n6, c6, E6, m6, d6, rfl, q6, b6⟩
      have x6 : Below V.heap.size V w6 := bb x5 b6
      have B9 := HBr.out.below' x6
      obtain ⟨⟨r0, r1, r2⟩, f0, f1, f2⟩ := B9.three
      go_wp2_with fail
      refine bodyPost_ret (v := .tuple #[.agg #[.bool s6, .slice A6 n6 c6, .slice E6 m6 d6], .int .i64 0]) (by simp [results, Tryz.results69, go_sem, r0, r1, r2]) rfl ?_
      exact ⟨_, _, _, _, _, _, _, rfl, q6.put3 ⟨_, _, _, _, _, _, _, B9⟩, below_put3 (bb hb0 x6) (by omega) (Nat.le_refl _) _ _ _⟩

set_option maxRecDepth 100000 in
set_option maxHeartbeats 8000000 in
theorem al_log_no {w : World} {s_y : Bool} {A_y D_y : Option Addr} {n_y c_y m_y d_y : Nat} {X_y : Rat} {s_va : Bool} {A_va D_va : Option Addr} {n_va c_va m_va d_va : Nat} {X_va : Rat} {s_vb : Bool} {A_vb D_vb : Option Addr} {n_vb c_vb m_vb d_vb : Nat} {X_vb : Rat} {s_ta : Bool} {A_ta D_ta : Option Addr} {n_ta c_ta m_ta d_ta : Nat} {X_ta : Rat} {s_tb : Bool} {A_tb D_tb : Option Addr} {n_tb c_tb m_tb d_tb : Nat} {X_tb : Rat} {q : RQ} {a b : Int} (q_y : Q w s_y A_y n_y c_y D_y m_y d_y X_y) (z_y : Sz X_y 64) (q_va : Q w s_va A_va n_va c_va D_va m_va d_va X_va) (z_va : Sz X_va 64) (q_vb : Q w s_vb A_vb n_vb c_vb D_vb m_vb d_vb X_vb) (z_vb : Sz X_vb 64) (q_ta : Q w s_ta A_ta n_ta c_ta D_ta m_ta d_ta X_ta) (z_ta : Sz X_ta 64) (q_tb : Q w s_tb A_tb n_tb c_tb D_tb m_tb d_tb X_tb) (z_tb : Sz X_tb 64) (h0 : X_va = 0) :
    Calls Tryz.prog 69 #[.agg #[.int .i64 10, .int .i64 a, .int .i64 b, .bool q.s, .slice q.A q.n q.c, .slice q.A' q.n' q.c'], .agg #[.bool s_y, .slice A_y n_y c_y, .slice D_y m_y d_y], .agg #[.bool s_va, .slice A_va n_va c_va, .slice D_va m_va d_va, .bool s_vb, .slice A_vb n_vb c_vb, .slice D_vb m_vb d_vb], .agg #[.bool s_ta, .slice A_ta n_ta c_ta, .slice D_ta m_ta d_ta, .bool s_tb, .slice A_tb n_tb c_tb, .slice D_tb m_tb d_tb]] w (RetNo 4 w) := by
  obtain ⟨V, hW, Bx, By, Bv, Bt, Br, hb0, hsz⟩ := boxesV 52 45 74 74 45 w #[.int .i64 10, .int .i64 a, .int .i64 b, .bool q.s, .slice q.A q.n q.c, .slice q.A' q.n' q.c'] #[.bool s_y, .slice A_y n_y c_y, .slice D_y m_y d_y] #[.bool s_va, .slice A_va n_va c_va, .slice D_va m_va d_va, .bool s_vb, .slice A_vb n_vb c_vb, .slice D_vb m_vb d_vb] #[.bool s_ta, .slice A_ta n_ta c_ta, .slice D_ta m_ta d_ta, .bool s_tb, .slice A_tb n_tb c_tb, .slice D_tb m_tb d_tb] #[.bool false, .slice none 0 0, .slice none 0 0]
  have hS : ∀ w', Below V.heap.size V w' → w'.cell? ⟨w.heap.size, 0, none⟩ = some (.int .i64 10) ∧ w'.cell? ⟨w.heap.size + 1, 0, none⟩ = some (.bool s_y) ∧ w'.cell? ⟨w.heap.size + 1, 1, none⟩ = some (.slice A_y n_y c_y) ∧ w'.cell? ⟨w.heap.size + 1, 2, none⟩ = some (.slice D_y m_y d_y) ∧ w'.cell? ⟨w.heap.size + 1 + 1 + 1, 0, none⟩ = some (.bool s_ta) ∧ w'.cell? ⟨w.heap.size + 1 + 1 + 1, 1, none⟩ = some (.slice A_ta n_ta c_ta) ∧ w'.cell? ⟨w.heap.size + 1 + 1 + 1, 2, none⟩ = some (.slice D_ta m_ta d_ta) ∧ w'.cell? ⟨w.heap.size + 1 + 1 + 1, 3, none⟩ = some (.bool s_tb) ∧ w'.cell? ⟨w.heap.size + 1 + 1 + 1, 4, none⟩ = some (.slice A_tb n_tb c_tb) ∧ w'.cell? ⟨w.heap.size + 1 + 1 + 1, 5, none⟩ = some (.slice D_tb m_tb d_tb) ∧ w'.cell? ⟨w.heap.size + 1 + 1, 0, none⟩ = some (.bool s_va) ∧ w'.cell? ⟨w.heap.size + 1 + 1, 1, none⟩ = some (.slice A_va n_va c_va) ∧ w'.cell? ⟨w.heap.size + 1 + 1, 2, none⟩ = some (.slice D_va m_va d_va) ∧ w'.cell? ⟨w.heap.size + 1 + 1, 3, none⟩ = some (.bool s_vb) ∧ w'.cell? ⟨w.heap.size + 1 + 1, 4, none⟩ = some (.slice A_vb n_vb c_vb) ∧ w'.cell? ⟨w.heap.size + 1 + 1, 5, none⟩ = some (.slice D_vb m_vb d_vb) := fun w' hb => ⟨(Bx.below' hb).six.1.1, (By.below' hb).three.1.1, (By.below' hb).three.1.2.1, (By.below' hb).three.1.2.2, (Bt.below' hb).six.1.1, (Bt.below' hb).six.1.2.1, (Bt.below' hb).six.1.2.2.1, (Bt.below' hb).six.1.2.2.2.1, (Bt.below' hb).six.1.2.2.2.2.1, (Bt.below' hb).six.1.2.2.2.2.2, (Bv.below' hb).six.1.1, (Bv.below' hb).six.1.2.1, (Bv.below' hb).six.1.2.2.1, (Bv.below' hb).six.1.2.2.2.1, (Bv.below' hb).six.1.2.2.2.2.1, (Bv.below' hb).six.1.2.2.2.2.2⟩
  have H_y := Lib.hid (fun (w1 : World) (hb : Below V.heap.size V w1) => q_y.below (bb hb0 hb))
  have H_ta := Lib.hid (fun (w1 : World) (hb : Below V.heap.size V w1) => q_ta.below (bb hb0 hb))
  have H_tb := Lib.hid (fun (w1 : World) (hb : Below V.heap.size V w1) => q_tb.below (bb hb0 hb))
  have H_va := Lib.hid (fun (w1 : World) (hb : Below V.heap.size V w1) => q_va.below (bb hb0 hb))
  have H_vb := Lib.hid (fun (w1 : World) (hb : Below V.heap.size V w1) => q_vb.below (bb hb0 hb))
  have HS := Lib.hid hS
  have HBr := Lib.hid Br
  have HW := Lib.hid hW
  have HZ := Lib.hid (show decide (X_va = 0) = true from decide_eq_true h0)
  have HN := Lib.hid h0
  clear hS Bx By Bv Bt Br hW h0 q_y q_va q_vb q_ta q_tb
  go_enter Tryz.func69, Tryz.ntmps69
  go_upto_region 11 with (fail)
  rw [HW.out]
  obtain ⟨p0, p1, p2, p3, p4, p5, p6, p7, p8, p9, p10, p11, p12, p13, p14, p15⟩ := HS.out _ (Below.refl _ V)
  go_cut [10, 11] (fun s10 s11 wx => ∃ g1 g2 : Nat, s10 = .pointer (some ⟨g1, 0, none⟩) ∧ s11 = .pointer (some ⟨g2, 0, none⟩) ∧ g1 ≠ g2 ∧ V.heap.size ≤ g1 ∧ V.heap.size ≤ g2 ∧ Box 45 wx g1 #[.bool s_ta, .slice A_ta n_ta c_ta, .slice D_ta m_ta d_ta] ∧ Box 45 wx g2 #[.bool s_va, .slice A_va n_va c_va, .slice D_va m_va d_va] ∧ Below V.heap.size V wx)
  case first =>
    go_region
    all_goals
      go_wp2_with fail
      go_meet
      first
        | (obtain ⟨t1, t2, t3⟩ := two_boxes (t := 45) hsz #[.bool s_ta, .slice A_ta n_ta c_ta, .slice D_ta m_ta d_ta] #[.bool s_va, .slice A_va n_va c_va, .slice D_va m_va d_va]; exact ⟨_, _, rfl, rfl, by omega, by omega, by omega, t1, t2, t3⟩)
        | (obtain ⟨t1, t2, t3⟩ := two_boxes (t := 45) hsz #[.bool s_va, .slice A_va n_va c_va, .slice D_va m_va d_va] #[.bool s_ta, .slice A_ta n_ta c_ta, .slice D_ta m_ta d_ta]; exact ⟨_, _, rfl, rfl, by omega, by omega, by omega, t2, t1, t3⟩)
  case rest =>
    obtain ⟨g1, g2, rfl, rfl, hne, hg1, hg2, C1, C2, x0⟩ := hcut
    obtain ⟨p0, p1, p2, p3, p4, p5, p6, p7, p8, p9, p10, p11, p12, p13, p14, p15⟩ := HS.out _ x0
    have HC1 := Lib.hid C1
    have HC2 := Lib.hid C2
    obtain ⟨⟨a0, a1, a2⟩, a3, a4, a5⟩ := C1.three
    obtain ⟨⟨e0, e1, e2⟩, e3, e4, e5⟩ := C2.three
    clear C1 C2
    go_wp2_with fail
    with_reducible refine (ref_zeroE (H_va.out _ x0) z_va true HZ.out).mono ?_
    rintro _ w1 ⟨rfl, b1⟩
    have x1 : Below V.heap.size V w1 := bb x0 b1
    obtain ⟨⟨a0, a1, a2⟩, a3, a4, a5⟩ := (HC1.out.below' b1).three
    obtain ⟨⟨e0, e1, e2⟩, e3, e4, e5⟩ := (HC2.out.below' b1).three
    have B9 := HBr.out.below' x1
    obtain ⟨⟨r0, r1, r2⟩, f0, f1, f2⟩ := B9.three
    go_wp2_with fail
    refine bodyPost_ret (v := .tuple #[.agg #[.bool false, .slice none 0 0, .slice none 0 0], .int .i64 4]) (by simp [results, Tryz.results69, go_sem, r0, r1, r2]) rfl ?_
    exact ⟨rfl, below_put3 (bb hb0 x1) (by omega) (Nat.le_refl _) _ _ _⟩

set_option maxRecDepth 100000 in
set_option maxHeartbeats 8000000 in
theorem al_sqrt_no {w : World} {s_y : Bool} {A_y D_y : Option Addr} {n_y c_y m_y d_y : Nat} {X_y : Rat} {s_va : Bool} {A_va D_va : Option Addr} {n_va c_va m_va d_va : Nat} {X_va : Rat} {s_vb : Bool} {A_vb D_vb : Option Addr} {n_vb c_vb m_vb d_vb : Nat} {X_vb : Rat} {s_ta : Bool} {A_ta D_ta : Option Addr} {n_ta c_ta m_ta d_ta : Nat} {X_ta : Rat} {s_tb : Bool} {A_tb D_tb : Option Addr} {n_tb c_tb m_tb d_tb : Nat} {X_tb : Rat} {q : RQ} {a b : Int} (q_y : Q w s_y A_y n_y c_y D_y m_y d_y X_y) (z_y : Sz X_y 64) (q_va : Q w s_va A_va n_va c_va D_va m_va d_va X_va) (z_va : Sz X_va 64) (q_vb : Q w s_vb A_vb n_vb c_vb D_vb m_vb d_vb X_vb) (z_vb : Sz X_vb 64) (q_ta : Q w s_ta A_ta n_ta c_ta D_ta m_ta d_ta X_ta) (z_ta : Sz X_ta 64) (q_tb : Q w s_tb A_tb n_tb c_tb D_tb m_tb d_tb X_tb) (z_tb : Sz X_tb 64) (h0 : X_y + X_y = 0) :
    Calls Tryz.prog 69 #[.agg #[.int .i64 8, .int .i64 a, .int .i64 b, .bool q.s, .slice q.A q.n q.c, .slice q.A' q.n' q.c'], .agg #[.bool s_y, .slice A_y n_y c_y, .slice D_y m_y d_y], .agg #[.bool s_va, .slice A_va n_va c_va, .slice D_va m_va d_va, .bool s_vb, .slice A_vb n_vb c_vb, .slice D_vb m_vb d_vb], .agg #[.bool s_ta, .slice A_ta n_ta c_ta, .slice D_ta m_ta d_ta, .bool s_tb, .slice A_tb n_tb c_tb, .slice D_tb m_tb d_tb]] w (RetNo 4 w) := by
  obtain ⟨V, hW, Bx, By, Bv, Bt, Br, hb0, hsz⟩ := boxesV 52 45 74 74 45 w #[.int .i64 8, .int .i64 a, .int .i64 b, .bool q.s, .slice q.A q.n q.c, .slice q.A' q.n' q.c'] #[.bool s_y, .slice A_y n_y c_y, .slice D_y m_y d_y] #[.bool s_va, .slice A_va n_va c_va, .slice D_va m_va d_va, .bool s_vb, .slice A_vb n_vb c_vb, .slice D_vb m_vb d_vb] #[.bool s_ta, .slice A_ta n_ta c_ta, .slice D_ta m_ta d_ta, .bool s_tb, .slice A_tb n_tb c_tb, .slice D_tb m_tb d_tb] #[.bool false, .slice none 0 0, .slice none 0 0]
  have hS : ∀ w', Below V.heap.size V w' → w'.cell? ⟨w.heap.size, 0, none⟩ = some (.int .i64 8) ∧ w'.cell? ⟨w.heap.size + 1, 0, none⟩ = some (.bool s_y) ∧ w'.cell? ⟨w.heap.size + 1, 1, none⟩ = some (.slice A_y n_y c_y) ∧ w'.cell? ⟨w.heap.size + 1, 2, none⟩ = some (.slice D_y m_y d_y) ∧ w'.cell? ⟨w.heap.size + 1 + 1 + 1, 0, none⟩ = some (.bool s_ta) ∧ w'.cell? ⟨w.heap.size + 1 + 1 + 1, 1, none⟩ = some (.slice A_ta n_ta c_ta) ∧ w'.cell? ⟨w.heap.size + 1 + 1 + 1, 2, none⟩ = some (.slice D_ta m_ta d_ta) ∧ w'.cell? ⟨w.heap.size + 1 + 1 + 1, 3, none⟩ = some (.bool s_tb) ∧ w'.cell? ⟨w.heap.size + 1 + 1 + 1, 4, none⟩ = some (.slice A_tb n_tb c_tb) ∧ w'.cell? ⟨w.heap.size + 1 + 1 + 1, 5, none⟩ = some (.slice D_tb m_tb d_tb) ∧ w'.cell? ⟨w.heap.size + 1 + 1, 0, none⟩ = some (.bool s_va) ∧ w'.cell? ⟨w.heap.size + 1 + 1, 1, none⟩ = some (.slice A_va n_va c_va) ∧ w'.cell? ⟨w.heap.size + 1 + 1, 2, none⟩ = some (.slice D_va m_va d_va) ∧ w'.cell? ⟨w.heap.size + 1 + 1, 3, none⟩ = some (.bool s_vb) ∧ w'.cell? ⟨w.heap.size + 1 + 1, 4, none⟩ = some (.slice A_vb n_vb c_vb) ∧ w'.cell? ⟨w.heap.size + 1 + 1, 5, none⟩ = some (.slice D_vb m_vb d_vb) := fun w' hb => ⟨(Bx.below' hb).six.1.1, (By.below' hb).three.1.1, (By.below' hb).three.1.2.1, (By.below' hb).three.1.2.2, (Bt.below' hb).six.1.1, (Bt.below' hb).six.1.2.1, (Bt.below' hb).six.1.2.2.1, (Bt.below' hb).six.1.2.2.2.1, (Bt.below' hb).six.1.2.2.2.2.1, (Bt.below' hb).six.1.2.2.2.2.2, (Bv.below' hb).six.1.1, (Bv.below' hb).six.1.2.1, (Bv.below' hb).six.1.2.2.1, (Bv.below' hb).six.1.2.2.2.1, (Bv.below' hb).six.1.2.2.2.2.1, (Bv.below' hb).six.1.2.2.2.2.2⟩
  have H_y := Lib.hid (fun (w1 : World) (hb : Below V.heap.size V w1) => q_y.below (bb hb0 hb))
  have H_ta := Lib.hid (fun (w1 : World) (hb : Below V.heap.size V w1) => q_ta.below (bb hb0 hb))
  have H_tb := Lib.hid (fun (w1 : World) (hb : Below V.heap.size V w1) => q_tb.below (bb hb0 hb))
  have H_va := Lib.hid (fun (w1 : World) (hb : Below V.heap.size V w1) => q_va.below (bb hb0 hb))
  have H_vb := Lib.hid (fun (w1 : World) (hb : Below V.heap.size V w1) => q_vb.below (bb hb0 hb))
  have HS := Lib.hid hS
  have HBr := Lib.hid Br
  have HW := Lib.hid hW
  have HZ := Lib.hid (show decide (X_y + X_y = 0) = true from decide_eq_true h0)
  have HN := Lib.hid h0
  clear hS Bx By Bv Bt Br hW h0 q_y q_va q_vb q_ta q_tb
  go_enter Tryz.func69, Tryz.ntmps69
  go_upto_region 11 with (fail)
  rw [HW.out]
  obtain ⟨p0, p1, p2, p3, p4, p5, p6, p7, p8, p9, p10, p11, p12, p13, p14, p15⟩ := HS.out _ (Below.refl _ V)
  go_cut [10, 11] (fun s10 s11 wx => ∃ g1 g2 : Nat, s10 = .pointer (some ⟨g1, 0, none⟩) ∧ s11 = .pointer (some ⟨g2, 0, none⟩) ∧ g1 ≠ g2 ∧ V.heap.size ≤ g1 ∧ V.heap.size ≤ g2 ∧ Box 45 wx g1 #[.bool s_ta, .slice A_ta n_ta c_ta, .slice D_ta m_ta d_ta] ∧ Box 45 wx g2 #[.bool s_va, .slice A_va n_va c_va, .slice D_va m_va d_va] ∧ Below V.heap.size V wx)
  case first =>
    go_region
    all_goals
      go_wp2_with fail
      go_meet
      first
        | (obtain ⟨t1, t2, t3⟩ := two_boxes (t := 45) hsz #[.bool s_ta, .slice A_ta n_ta c_ta, .slice D_ta m_ta d_ta] #[.bool s_va, .slice A_va n_va c_va, .slice D_va m_va d_va]; exact ⟨_, _, rfl, rfl, by omega, by omega, by omega, t1, t2, t3⟩)
        | (obtain ⟨t1, t2, t3⟩ := two_boxes (t := 45) hsz #[.bool s_va, .slice A_va n_va c_va, .slice D_va m_va d_va] #[.bool s_ta, .slice A_ta n_ta c_ta, .slice D_ta m_ta d_ta]; exact ⟨_, _, rfl, rfl, by omega, by omega, by omega, t2, t1, t3⟩)
  case rest =>
    obtain ⟨g1, g2, rfl, rfl, hne, hg1, hg2, C1, C2, x0⟩ := hcut
    obtain ⟨p0, p1, p2, p3, p4, p5, p6, p7, p8, p9, p10, p11, p12, p13, p14, p15⟩ := HS.out _ x0
    have HC1 := Lib.hid C1
    have HC2 := Lib.hid C2
    obtain ⟨⟨a0, a1, a2⟩, a3, a4, a5⟩ := C1.three
    obtain ⟨⟨e0, e1, e2⟩, e3, e4, e5⟩ := C2.three
    clear C1 C2
    go_wp2_with fail
    with_reducible refine (rf_twice (H_y.out _ x0) z_y (by omega)).mono ?_
    rintro _ w1 ⟨s1, A1, n1, c1, E1, m1, d1, rfl, q1, b1⟩
    have x1 : Below V.heap.size V w1 := bb x0 b1
    have D1' := HC1.out.below' b1
    have D2' := HC2.out.below' b1
    obtain ⟨⟨e0, e1, e2⟩, e3, e4, e5⟩ := D2'.three
    go_upto_region 17 with (fail)
    obtain ⟨w2, hV2⟩ : ∃ W, ((w1.setCell ⟨g2, 0, none⟩ (.bool s1)).setCell ⟨g2, 1, none⟩ (.slice A1 n1 c1)).setCell ⟨g2, 2, none⟩ (.slice E1 m1 d1) = W := ⟨_, rfl⟩
    rw [hV2]
    have D2 : Box 45 w2 g2 #[.bool s1, .slice A1 n1 c1, .slice E1 m1 d1] := by rw [← hV2]; exact box_self D2' _ _ _
    have D1 : Box 45 w2 g1 #[.bool s_ta, .slice A_ta n_ta c_ta, .slice D_ta m_ta d_ta] := by rw [← hV2]; exact D1'.put3 hne _ _ _
    have x2 : Below V.heap.size V w2 := by rw [← hV2]; exact below_put3 x1 hg2 (Nat.le_refl _) _ _ _
    have q2 : Q w2 s1 A1 n1 c1 E1 m1 d1 (X_y + X_y) := by rw [← hV2]; exact q1.put3 (x0 := .bool s1) (x1 := .slice A1 n1 c1) (x2 := .slice E1 m1 d1) ⟨_, _, _, _, _, _, _, D2'⟩
    have HD1 := Lib.hid D1
    have HD2 := Lib.hid D2
    obtain ⟨⟨a0, a1, a2⟩, a3, a4, a5⟩ := D1.three
    obtain ⟨⟨e0, e1, e2⟩, e3, e4, e5⟩ := D2.three
    clear D1 D2 D1' D2' hV2
    go_wp2_with fail
    with_reducible refine (ref_zeroE q2 (z_y.add z_y) true HZ.out).mono ?_
    rintro _ w3 ⟨rfl, b3⟩
    have x3 : Below V.heap.size V w3 := bb x2 b3
    obtain ⟨⟨a0, a1, a2⟩, a3, a4, a5⟩ := (HD1.out.below' b3).three
    obtain ⟨⟨e0, e1, e2⟩, e3, e4, e5⟩ := (HD2.out.below' b3).three
    have B9 := HBr.out.below' x3
    obtain ⟨⟨r0, r1, r2⟩, f0, f1, f2⟩ := B9.three
    go_wp2_with fail
    refine bodyPost_ret (v := .tuple #[.agg #[.bool false, .slice none 0 0, .slice none 0 0], .int .i64 4]) (by simp [results, Tryz.results69, go_sem, r0, r1, r2]) rfl ?_
    exact ⟨rfl, below_put3 (bb hb0 x3) (by omega) (Nat.le_refl _) _ _ _⟩

set_option maxRecDepth 100000 in
set_option maxHeartbeats 8000000 in
theorem al_div_no {w : World} {s_y : Bool} {A_y D_y : Option Addr} {n_y c_y m_y d_y : Nat} {X_y : Rat} {s_va : Bool} {A_va D_va : Option Addr} {n_va c_va m_va d_va : Nat} {X_va : Rat} {s_vb : Bool} {A_vb D_vb : Option Addr} {n_vb c_vb m_vb d_vb : Nat} {X_vb : Rat} {s_ta : Bool} {A_ta D_ta : Option Addr} {n_ta c_ta m_ta d_ta : Nat} {X_ta : Rat} {s_tb : Bool} {A_tb D_tb : Option Addr} {n_tb c_tb m_tb d_tb : Nat} {X_tb : Rat} {q : RQ} {a b : Int} (q_y : Q w s_y A_y n_y c_y D_y m_y d_y X_y) (z_y : Sz X_y 64) (q_va : Q w s_va A_va n_va c_va D_va m_va d_va X_va) (z_va : Sz X_va 64) (q_vb : Q w s_vb A_vb n_vb c_vb D_vb m_vb d_vb X_vb) (z_vb : Sz X_vb 64) (q_ta : Q w s_ta A_ta n_ta c_ta D_ta m_ta d_ta X_ta) (z_ta : Sz X_ta 64) (q_tb : Q w s_tb A_tb n_tb c_tb D_tb m_tb d_tb X_tb) (z_tb : Sz X_tb 64) (h0 : X_vb = 0) :
    Calls Tryz.prog 69 #[.agg #[.int .i64 7, .int .i64 a, .int .i64 b, .bool q.s, .slice q.A q.n q.c, .slice q.A' q.n' q.c'], .agg #[.bool s_y, .slice A_y n_y c_y, .slice D_y m_y d_y], .agg #[.bool s_va, .slice A_va n_va c_va, .slice D_va m_va d_va, .bool s_vb, .slice A_vb n_vb c_vb, .slice D_vb m_vb d_vb], .agg #[.bool s_ta, .slice A_ta n_ta c_ta, .slice D_ta m_ta d_ta, .bool s_tb, .slice A_tb n_tb c_tb, .slice D_tb m_tb d_tb]] w (RetNo 4 w) := by
  obtain ⟨V, hW, Bx, By, Bv, Bt, Br, hb0, hsz⟩ := boxesV 52 45 74 74 45 w #[.int .i64 7, .int .i64 a, .int .i64 b, .bool q.s, .slice q.A q.n q.c, .slice q.A' q.n' q.c'] #[.bool s_y, .slice A_y n_y c_y, .slice D_y m_y d_y] #[.bool s_va, .slice A_va n_va c_va, .slice D_va m_va d_va, .bool s_vb, .slice A_vb n_vb c_vb, .slice D_vb m_vb d_vb] #[.bool s_ta, .slice A_ta n_ta c_ta, .slice D_ta m_ta d_ta, .bool s_tb, .slice A_tb n_tb c_tb, .slice D_tb m_tb d_tb] #[.bool false, .slice none 0 0, .slice none 0 0]
  have hS : ∀ w', Below V.heap.size V w' → w'.cell? ⟨w.heap.size, 0, none⟩ = some (.int .i64 7) ∧ w'.cell? ⟨w.heap.size + 1, 0, none⟩ = some (.bool s_y) ∧ w'.cell? ⟨w.heap.size + 1, 1, none⟩ = some (.slice A_y n_y c_y) ∧ w'.cell? ⟨w.heap.size + 1, 2, none⟩ = some (.slice D_y m_y d_y) ∧ w'.cell? ⟨w.heap.size + 1 + 1 + 1, 0, none⟩ = some (.bool s_ta) ∧ w'.cell? ⟨w.heap.size + 1 + 1 + 1, 1, none⟩ = some (.slice A_ta n_ta c_ta) ∧ w'.cell? ⟨w.heap.size + 1 + 1 + 1, 2, none⟩ = some (.slice D_ta m_ta d_ta) ∧ w'.cell? ⟨w.heap.size + 1 + 1 + 1, 3, none⟩ = some (.bool s_tb) ∧ w'.cell? ⟨w.heap.size + 1 + 1 + 1, 4, none⟩ = some (.slice A_tb n_tb c_tb) ∧ w'.cell? ⟨w.heap.size + 1 + 1 + 1, 5, none⟩ = some (.slice D_tb m_tb d_tb) ∧ w'.cell? ⟨w.heap.size + 1 + 1, 0, none⟩ = some (.bool s_va) ∧ w'.cell? ⟨w.heap.size + 1 + 1, 1, none⟩ = some (.slice A_va n_va c_va) ∧ w'.cell? ⟨w.heap.size + 1 + 1, 2, none⟩ = some (.slice D_va m_va d_va) ∧ w'.cell? ⟨w.heap.size + 1 + 1, 3, none⟩ = some (.bool s_vb) ∧ w'.cell? ⟨w.heap.size + 1 + 1, 4, none⟩ = some (.slice A_vb n_vb c_vb) ∧ w'.cell? ⟨w.heap.size + 1 + 1, 5, none⟩ = some (.slice D_vb m_vb d_vb) := fun w' hb => ⟨(Bx.below' hb).six.1.1, (By.below' hb).three.1.1, (By.below' hb).three.1.2.1, (By.below' hb).three.1.2.2, (Bt.below' hb).six.1.1, (Bt.below' hb).six.1.2.1, (Bt.below' hb).six.1.2.2.1, (Bt.below' hb).six.1.2.2.2.1, (Bt.below' hb).six.1.2.2.2.2.1, (Bt.below' hb).six.1.2.2.2.2.2, (Bv.below' hb).six.1.1, (Bv.below' hb).six.1.2.1, (Bv.below' hb).six.1.2.2.1, (Bv.below' hb).six.1.2.2.2.1, (Bv.below' hb).six.1.2.2.2.2.1, (Bv.below' hb).six.1.2.2.2.2.2⟩
  have H_y := Lib.hid (fun (w1 : World) (hb : Below V.heap.size V w1) => q_y.below (bb hb0 hb))
  have H_ta := Lib.hid (fun (w1 : World) (hb : Below V.heap.size V w1) => q_ta.below (bb hb0 hb))
  have H_tb := Lib.hid (fun (w1 : World) (hb : Below V.heap.size V w1) => q_tb.below (bb hb0 hb))
  have H_va := Lib.hid (fun (w1 : World) (hb : Below V.heap.size V w1) => q_va.below (bb hb0 hb))
  have H_vb := Lib.hid (fun (w1 : World) (hb : Below V.heap.size V w1) => q_vb.below (bb hb0 hb))
  have HS := Lib.hid hS
  have HBr := Lib.hid Br
  have HW := Lib.hid hW
  have HZ := Lib.hid (show decide (X_vb = 0) = true from decide_eq_true h0)
  have HN := Lib.hid h0
  clear hS Bx By Bv Bt Br hW h0 q_y q_va q_vb q_ta q_tb
  go_enter Tryz.func69, Tryz.ntmps69
  go_upto_region 11 with (fail)
  rw [HW.out]
  obtain ⟨p0, p1, p2, p3, p4, p5, p6, p7, p8, p9, p10, p11, p12, p13, p14, p15⟩ := HS.out _ (Below.refl _ V)
  go_cut [10, 11] (fun s10 s11 wx => ∃ g1 g2 : Nat, s10 = .pointer (some ⟨g1, 0, none⟩) ∧ s11 = .pointer (some ⟨g2, 0, none⟩) ∧ g1 ≠ g2 ∧ V.heap.size ≤ g1 ∧ V.heap.size ≤ g2 ∧ Box 45 wx g1 #[.bool s_ta, .slice A_ta n_ta c_ta, .slice D_ta m_ta d_ta] ∧ Box 45 wx g2 #[.bool s_va, .slice A_va n_va c_va, .slice D_va m_va d_va] ∧ Below V.heap.size V wx)
  case first =>
    go_region
    all_goals
      go_wp2_with fail
      go_meet
      first
        | (obtain ⟨t1, t2, t3⟩ := two_boxes (t := 45) hsz #[.bool s_ta, .slice A_ta n_ta c_ta, .slice D_ta m_ta d_ta] #[.bool s_va, .slice A_va n_va c_va, .slice D_va m_va d_va]; exact ⟨_, _, rfl, rfl, by omega, by omega, by omega, t1, t2, t3⟩)
        | (obtain ⟨t1, t2, t3⟩ := two_boxes (t := 45) hsz #[.bool s_va, .slice A_va n_va c_va, .slice D_va m_va d_va] #[.bool s_ta, .slice A_ta n_ta c_ta, .slice D_ta m_ta d_ta]; exact ⟨_, _, rfl, rfl, by omega, by omega, by omega, t2, t1, t3⟩)
  case rest =>
    obtain ⟨g1, g2, rfl, rfl, hne, hg1, hg2, C1, C2, x0⟩ := hcut
    obtain ⟨p0, p1, p2, p3, p4, p5, p6, p7, p8, p9, p10, p11, p12, p13, p14, p15⟩ := HS.out _ x0
    have HC1 := Lib.hid C1
    have HC2 := Lib.hid C2
    obtain ⟨⟨a0, a1, a2⟩, a3, a4, a5⟩ := C1.three
    obtain ⟨⟨e0, e1, e2⟩, e3, e4, e5⟩ := C2.three
    clear C1 C2
    go_upto_region 13 with (fail)
    have HS3 := Lib.hid (show ∀ w', Below V.heap.size V w' → w'.cell? ⟨w.heap.size + 1, 0, none⟩ = some (.bool s_y) ∧ w'.cell? ⟨w.heap.size + 1, 1, none⟩ = some (.slice A_y n_y c_y) ∧ w'.cell? ⟨w.heap.size + 1, 2, none⟩ = some (.slice D_y m_y d_y) ∧ w'.cell? ⟨w.heap.size + 1 + 1 + 1, 0, none⟩ = some (.bool s_ta) ∧ w'.cell? ⟨w.heap.size + 1 + 1 + 1, 1, none⟩ = some (.slice A_ta n_ta c_ta) ∧ w'.cell? ⟨w.heap.size + 1 + 1 + 1, 2, none⟩ = some (.slice D_ta m_ta d_ta) ∧ w'.cell? ⟨w.heap.size + 1 + 1 + 1, 3, none⟩ = some (.bool s_tb) ∧ w'.cell? ⟨w.heap.size + 1 + 1 + 1, 4, none⟩ = some (.slice A_tb n_tb c_tb) ∧ w'.cell? ⟨w.heap.size + 1 + 1 + 1, 5, none⟩ = some (.slice D_tb m_tb d_tb) from fun w' hb => by
      obtain ⟨_, t1, t2, t3, t4, t5, t6, t7, t8, t9, _⟩ := HS.out w' hb
      exact ⟨t1, t2, t3, t4, t5, t6, t7, t8, t9⟩)
    go_region_held3 (fun w' => w'.cell? ⟨w.heap.size + 1, 0, none⟩ = some (.bool s_y) ∧ w'.cell? ⟨w.heap.size + 1, 1, none⟩ = some (.slice A_y n_y c_y) ∧ w'.cell? ⟨w.heap.size + 1, 2, none⟩ = some (.slice D_y m_y d_y) ∧ w'.cell? ⟨w.heap.size + 1 + 1 + 1, 0, none⟩ = some (.bool s_ta) ∧ w'.cell? ⟨w.heap.size + 1 + 1 + 1, 1, none⟩ = some (.slice A_ta n_ta c_ta) ∧ w'.cell? ⟨w.heap.size + 1 + 1 + 1, 2, none⟩ = some (.slice D_ta m_ta d_ta) ∧ w'.cell? ⟨w.heap.size + 1 + 1 + 1, 3, none⟩ = some (.bool s_tb) ∧ w'.cell? ⟨w.heap.size + 1 + 1 + 1, 4, none⟩ = some (.slice A_tb n_tb c_tb) ∧ w'.cell? ⟨w.heap.size + 1 + 1 + 1, 5, none⟩ = some (.slice D_tb m_tb d_tb)) (first | with_reducible exact HS3.out _ x0.drew | exact HS3.out _ (below_put3 x2 hg1 (Nat.le_refl _) _ _ _) | with_reducible exact HS3.out _ x2 | with_reducible exact HS3.out _ x1 | fail)
      (first
        | (go_at_call 22; (with_reducible refine (ref_qmul ?h1 ?h2 z_y z_tb (by omega)).mono ?_); (case h1 => exact H_y.out _ x0.drew); (case h2 => exact H_tb.out _ x0.drew); rintro _ w1 ⟨s1, A1, n1, c1, E1, m1, d1, rfl, q1, b1⟩; have b1 := Below.undrew b1; have x1 : Below V.heap.size V w1 := bb x0 b1)
        | (go_at_call 77; (with_reducible refine (ref_qsub (N := 128) (H_ta.out _ x1) q1 (z_ta.mono (by omega)) (z_y.mul z_tb) (by omega)).mono ?_); rintro _ w2 ⟨s2, A2, n2, c2, E2, m2, d2, rfl, q2, b2⟩; have x2 : Below V.heap.size V w2 := bb x1 b2; have D1' := HC1.out.below' (bb b1 b2); have D2' := HC2.out.below' (bb b1 b2); obtain ⟨⟨a0, a1, a2⟩, a3, a4, a5⟩ := D1'.three))
    all_goals
      obtain ⟨w3, hV3⟩ : ∃ W, ((w2.setCell ⟨g1, 0, none⟩ (.bool s2)).setCell ⟨g1, 1, none⟩ (.slice A2 n2 c2)).setCell ⟨g1, 2, none⟩ (.slice E2 m2 d2) = W := ⟨_, rfl⟩
      rw [hV3]
      have D1 : Box 45 w3 g1 #[.bool s2, .slice A2 n2 c2, .slice E2 m2 d2] := by rw [← hV3]; exact box_self D1' _ _ _
      have D2 : Box 45 w3 g2 #[.bool s_va, .slice A_va n_va c_va, .slice D_va m_va d_va] := by rw [← hV3]; exact D2'.put3 hne.symm _ _ _
      have x3 : Below V.heap.size V w3 := by rw [← hV3]; exact below_put3 x2 hg1 (Nat.le_refl _) _ _ _
      have q3 : Q w3 s2 A2 n2 c2 E2 m2 d2 (X_ta - X_y * X_tb) := by rw [← hV3]; exact q2.put3 (x0 := .bool s2) (x1 := .slice A2 n2 c2) (x2 := .slice E2 m2 d2) ⟨_, _, _, _, _, _, _, D1'⟩
      clear hV3 D1' D2'
      obtain ⟨p0, p1, p2, p3, p4, p5, p6, p7, p8, p9, p10, p11, p12, p13, p14, p15⟩ := HS.out _ x3
      obtain ⟨⟨e0, e1, e2⟩, e3, e4, e5⟩ := D2.three
      go_upto_region 15 with (fail)
      obtain ⟨w4, hV4⟩ : ∃ W, ((w3.setCell ⟨g2, 0, none⟩ (.bool s_vb)).setCell ⟨g2, 1, none⟩ (.slice A_vb n_vb c_vb)).setCell ⟨g2, 2, none⟩ (.slice D_vb m_vb d_vb) = W := ⟨_, rfl⟩
      rw [hV4]
      have F2 : Box 45 w4 g2 #[.bool s_vb, .slice A_vb n_vb c_vb, .slice D_vb m_vb d_vb] := by rw [← hV4]; exact box_self D2 _ _ _
      have F1 : Box 45 w4 g1 #[.bool s2, .slice A2 n2 c2, .slice E2 m2 d2] := by rw [← hV4]; exact D1.put3 hne _ _ _
      have x4 : Below V.heap.size V w4 := by rw [← hV4]; exact below_put3 x3 hg2 (Nat.le_refl _) _ _ _
      have q4 : Q w4 s2 A2 n2 c2 E2 m2 d2 (X_ta - X_y * X_tb) := by rw [← hV4]; exact q3.put3 (x0 := .bool s_vb) (x1 := .slice A_vb n_vb c_vb) (x2 := .slice D_vb m_vb d_vb) ⟨_, _, _, _, _, _, _, D2⟩
      have HD1 := Lib.hid F1
      have HD2 := Lib.hid F2
      obtain ⟨⟨a0, a1, a2⟩, a3, a4, a5⟩ := F1.three
      obtain ⟨⟨e0, e1, e2⟩, e3, e4, e5⟩ := F2.three
      clear F1 F2 D1 D2 hV4
      obtain ⟨p0, p1, p2, p3, p4, p5, p6, p7, p8, p9, p10, p11, p12, p13, p14, p15⟩ := HS.out _ x4
      go_wp2_with fail
      with_reducible refine (ref_zeroE (H_vb.out _ x4) z_vb true HZ.out).mono ?_
      rintro _ w5 ⟨rfl, b5⟩
      have x5 : Below V.heap.size V w5 := bb x4 b5
      obtain ⟨⟨a0, a1, a2⟩, a3, a4, a5⟩ := (HD1.out.below' b5).three
      obtain ⟨⟨e0, e1, e2⟩, e3, e4, e5⟩ := (HD2.out.below' b5).three
      have B9 := HBr.out.below' x5
      obtain ⟨⟨r0, r1, r2⟩, f0, f1, f2⟩ := B9.three
      go_wp2_with fail
      refine bodyPost_ret (v := .tuple #[.agg #[.bool false, .slice none 0 0, .slice none 0 0], .int .i64 4]) (by simp [results, Tryz.results69, go_sem, r0, r1, r2]) rfl ?_
      exact ⟨rfl, below_put3 (bb hb0 x5) (by omega) (Nat.le_refl _) _ _ _⟩

end Go.Proofs.YtfhihapgjiaobaaGreat
