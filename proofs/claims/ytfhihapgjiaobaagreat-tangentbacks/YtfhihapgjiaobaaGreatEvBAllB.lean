/-
  Derivatives of straight-line programs, plainly: tangents and adjoints, exactly; that both are adjoint to each other; that tangents are linear. Conditions: as each lemma says.
-/
import Derived.Test.YtfhihapgjiaobaaGreatLnCAllB
namespace Go.Proofs.YtfhihapgjiaobaaGreat
set_option maxRecDepth 100000
open Go.RowKit
set_option linter.unusedVariables false
set_option linter.unusedSimpArgs false

theorem boxes63 (t u : TypeId) (w : World) (vs us : Array Value) : ∃ W, (w.alloc (.cells vs t)).alloc (.cells us u) = W ∧ Box t W w.heap.size vs ∧ Box u W (w.heap.size + 1) us ∧ Below w.heap.size w W := by
  refine ⟨_, rfl, (Box.new w t vs).alloc _, ?_, (below_alloc _ _).alloc (by simp) _⟩
  have := Box.new (w.alloc (.cells vs t)) u us
  rw [show (w.alloc (.cells vs t)).heap.size = w.heap.size + 1 from by simp] at this
  exact this
theorem cell_put3 {w : World} {g b i : Nat} {x0 x1 x2 : Value} (hne : b ≠ g) (hlt : b < w.heap.size) : (put3 w g x0 x1 x2).cell? ⟨b, i, none⟩ = w.cell? ⟨b, i, none⟩ :=
  World.cell?_of_block (a := ⟨b, i, none⟩) ((keep_put3 w g x0 x1 x2).block b hlt hne)
/-- a value and no error, or an error -/
def RetEV (r : Except Int Rat) (w : World) : Ending → World → Prop := match r with
  | .ok X => RetQE X 0 w
  | .error e => RetNo e w

set_option maxRecDepth 100000 in
set_option maxHeartbeats 4000000 in
theorem ev_in {w : World} {A B C : Option Addr} {n c m d l f N : Nat} {v ins fs : List Rat} {q : RQ} {i : Nat} {b : Int} (hq : q.ok w) (hv : SlQ w A n c v) (hi : SlQ w B m d ins) (hf : SlQ w C l f fs) (zv : AllSz N v) (zi : AllSz N ins) (zf : AllSz N fs) (hN : N ≤ 300) (hn : n ≤ 65536) (hm : m ≤ 65536) (hl : l ≤ 65536) (hlt : i < m) :
    Calls Tryz.prog 61 #[.agg #[.int .i64 1, .int .i64 (i : Int), .int .i64 b, .bool q.s, .slice q.A q.n q.c, .slice q.A' q.n' q.c'], .slice A n c, .slice B m d, .slice C l f] w (RetQE (ins.getD i 0) 0 w) := by
  obtain ⟨V, hW, Ba, Br, hb0⟩ := boxes63 52 45 w #[.int .i64 1, .int .i64 (i : Int), .int .i64 b, .bool q.s, .slice q.A q.n q.c, .slice q.A' q.n' q.c'] #[.bool false, .slice none 0 0, .slice none 0 0]
  have K := ev_element (hi.below hb0) zi (by omega) hlt 11 hm
  have HK := Lib.hid K
  have HBr := Lib.hid Br
  have HW := Lib.hid hW
  clear K Ba Br hW hv hi hf zv zi zf hq
  go_enter Tryz.func61, Tryz.ntmps61
  go_wp2_with fail
  rw [HW.out]
  refine HK.out.mono ?_
  rintro _ w1 ⟨s1, A3, n3, c3, A4, n4, c4, rfl, q3, b1⟩
  have B9 := HBr.out.below' b1
  obtain ⟨⟨r0, r1, r2⟩, f0, f1, f2⟩ := B9.three
  go_wp2_with fail
  refine bodyPost_ret (v := .tuple #[.agg #[.bool s1, .slice A3 n3 c3, .slice A4 n4 c4], .int .i64 0]) (by simp [results, Tryz.results61, go_sem, r0, r1, r2]) rfl ?_
  exact ⟨_, _, _, _, _, _, _, rfl, q3.put3 ⟨_, _, _, _, _, _, _, B9⟩, below_put3 (bb hb0 b1) (by omega) (Nat.le_refl _) _ _ _⟩

set_option maxRecDepth 100000 in
set_option maxHeartbeats 4000000 in
theorem ev_in_no {w : World} {A B C : Option Addr} {n c m d l f N : Nat} {v ins fs : List Rat} {q : RQ} {i : Nat} {b : Int} (hq : q.ok w) (hv : SlQ w A n c v) (hi : SlQ w B m d ins) (hf : SlQ w C l f fs) (zv : AllSz N v) (zi : AllSz N ins) (zf : AllSz N fs) (hN : N ≤ 300) (hn : n ≤ 65536) (hm : m ≤ 65536) (hl : l ≤ 65536) (hlt : ¬ i < m) :
    Calls Tryz.prog 61 #[.agg #[.int .i64 1, .int .i64 (i : Int), .int .i64 b, .bool q.s, .slice q.A q.n q.c, .slice q.A' q.n' q.c'], .slice A n c, .slice B m d, .slice C l f] w (RetNo 11 w) := by
  obtain ⟨V, hW, Ba, Br, hb0⟩ := boxes63 52 45 w #[.int .i64 1, .int .i64 (i : Int), .int .i64 b, .bool q.s, .slice q.A q.n q.c, .slice q.A' q.n' q.c'] #[.bool false, .slice none 0 0, .slice none 0 0]
  have K := ev_element_no (w := V) (A := B) (n := m) (c := d) hlt 11
  have HK := Lib.hid K
  have HBr := Lib.hid Br
  have HW := Lib.hid hW
  clear K Ba Br hW hv hi hf zv zi zf hq
  go_enter Tryz.func61, Tryz.ntmps61
  go_wp2_with fail
  rw [HW.out]
  refine HK.out.mono ?_
  rintro _ w1 ⟨rfl, b1⟩
  have B9 := HBr.out.below' b1
  obtain ⟨⟨r0, r1, r2⟩, f0, f1, f2⟩ := B9.three
  go_wp2_with fail
  refine bodyPost_ret (v := .tuple #[.agg #[.bool false, .slice none 0 0, .slice none 0 0], .int .i64 11]) (by simp [results, Tryz.results61, go_sem, r0, r1, r2]) rfl ?_
  exact ⟨rfl, below_put3 (bb hb0 b1) (by omega) (Nat.le_refl _) _ _ _⟩

set_option maxRecDepth 100000 in
set_option maxHeartbeats 4000000 in
theorem ev_const {w : World} {A B C : Option Addr} {n c m d l f N : Nat} {v ins fs : List Rat} {q : RQ} {a b : Int} (hq : q.ok w) (hv : SlQ w A n c v) (hi : SlQ w B m d ins) (hf : SlQ w C l f fs) (zv : AllSz N v) (zi : AllSz N ins) (zf : AllSz N fs) (hN : N ≤ 300) (hn : n ≤ 65536) (hm : m ≤ 65536) (hl : l ≤ 65536) {X : Rat} (hX : q.is w X) (zX : Sz X N) :
    Calls Tryz.prog 61 #[.agg #[.int .i64 2, .int .i64 a, .int .i64 b, .bool q.s, .slice q.A q.n q.c, .slice q.A' q.n' q.c'], .slice A n c, .slice B m d, .slice C l f] w (RetQE X 0 w) := by
  obtain ⟨V, hW, Ba, Br, hb0⟩ := boxes63 52 45 w #[.int .i64 2, .int .i64 a, .int .i64 b, .bool q.s, .slice q.A q.n q.c, .slice q.A' q.n' q.c'] #[.bool false, .slice none 0 0, .slice none 0 0]
  have K := ev_clone (Q.below hX hb0) zX (by omega)
  have HK := Lib.hid K
  have HBr := Lib.hid Br
  have HW := Lib.hid hW
  clear K Ba Br hW hv hi hf zv zi zf hq hX
  go_enter Tryz.func61, Tryz.ntmps61
  go_wp2_with fail
  rw [HW.out]
  refine HK.out.mono ?_
  rintro _ w1 ⟨s1, A3, n3, c3, A4, n4, c4, rfl, q3, b1⟩
  have B9 := HBr.out.below' b1
  obtain ⟨⟨r0, r1, r2⟩, f0, f1, f2⟩ := B9.three
  go_wp2_with fail
  refine bodyPost_ret (v := .tuple #[.agg #[.bool s1, .slice A3 n3 c3, .slice A4 n4 c4], .int .i64 0]) (by simp [results, Tryz.results61, go_sem, r0, r1, r2]) rfl ?_
  exact ⟨_, _, _, _, _, _, _, rfl, q3.put3 ⟨_, _, _, _, _, _, _, B9⟩, below_put3 (bb hb0 b1) (by omega) (Nat.le_refl _) _ _ _⟩

set_option maxRecDepth 100000 in
set_option maxHeartbeats 4000000 in
theorem ev_form8 {w : World} {A B C : Option Addr} {n c m d l f N : Nat} {v ins fs : List Rat} {q : RQ} {a b : Int} (hq : q.ok w) (hv : SlQ w A n c v) (hi : SlQ w B m d ins) (hf : SlQ w C l f fs) (zv : AllSz N v) (zi : AllSz N ins) (zf : AllSz N fs) (hN : N ≤ 300) (hn : n ≤ 65536) (hm : m ≤ 65536) (hl : l ≤ 65536) (hlt : 0 < l) :
    Calls Tryz.prog 61 #[.agg #[.int .i64 8, .int .i64 a, .int .i64 b, .bool q.s, .slice q.A q.n q.c, .slice q.A' q.n' q.c'], .slice A n c, .slice B m d, .slice C l f] w (RetQE (fs.getD 0 0) 0 w) := by
  obtain ⟨V, hW, Ba, Br, hb0⟩ := boxes63 52 45 w #[.int .i64 8, .int .i64 a, .int .i64 b, .bool q.s, .slice q.A q.n q.c, .slice q.A' q.n' q.c'] #[.bool false, .slice none 0 0, .slice none 0 0]
  have K := ev_element (hf.below hb0) zf (by omega) hlt 6 hl
  have HK := Lib.hid K
  have HBr := Lib.hid Br
  have HW := Lib.hid hW
  clear K Ba Br hW hv hi hf zv zi zf hq
  go_enter Tryz.func61, Tryz.ntmps61
  go_wp2_with fail
  rw [HW.out]
  refine HK.out.mono ?_
  rintro _ w1 ⟨s1, A3, n3, c3, A4, n4, c4, rfl, q3, b1⟩
  have B9 := HBr.out.below' b1
  obtain ⟨⟨r0, r1, r2⟩, f0, f1, f2⟩ := B9.three
  go_wp2_with fail
  refine bodyPost_ret (v := .tuple #[.agg #[.bool s1, .slice A3 n3 c3, .slice A4 n4 c4], .int .i64 0]) (by simp [results, Tryz.results61, go_sem, r0, r1, r2]) rfl ?_
  exact ⟨_, _, _, _, _, _, _, rfl, q3.put3 ⟨_, _, _, _, _, _, _, B9⟩, below_put3 (bb hb0 b1) (by omega) (Nat.le_refl _) _ _ _⟩

set_option maxRecDepth 100000 in
set_option maxHeartbeats 4000000 in
theorem ev_form8_no {w : World} {A B C : Option Addr} {n c m d l f N : Nat} {v ins fs : List Rat} {q : RQ} {a b : Int} (hq : q.ok w) (hv : SlQ w A n c v) (hi : SlQ w B m d ins) (hf : SlQ w C l f fs) (zv : AllSz N v) (zi : AllSz N ins) (zf : AllSz N fs) (hN : N ≤ 300) (hn : n ≤ 65536) (hm : m ≤ 65536) (hl : l ≤ 65536) (hlt : ¬ 0 < l) :
    Calls Tryz.prog 61 #[.agg #[.int .i64 8, .int .i64 a, .int .i64 b, .bool q.s, .slice q.A q.n q.c, .slice q.A' q.n' q.c'], .slice A n c, .slice B m d, .slice C l f] w (RetNo 6 w) := by
  obtain ⟨V, hW, Ba, Br, hb0⟩ := boxes63 52 45 w #[.int .i64 8, .int .i64 a, .int .i64 b, .bool q.s, .slice q.A q.n q.c, .slice q.A' q.n' q.c'] #[.bool false, .slice none 0 0, .slice none 0 0]
  have K := ev_element_no (w := V) (A := C) (n := l) (c := f) (i := 0) hlt 6
  have HK := Lib.hid K
  have HBr := Lib.hid Br
  have HW := Lib.hid hW
  clear K Ba Br hW hv hi hf zv zi zf hq
  go_enter Tryz.func61, Tryz.ntmps61
  go_wp2_with fail
  rw [HW.out]
  refine HK.out.mono ?_
  rintro _ w1 ⟨rfl, b1⟩
  have B9 := HBr.out.below' b1
  obtain ⟨⟨r0, r1, r2⟩, f0, f1, f2⟩ := B9.three
  go_wp2_with fail
  refine bodyPost_ret (v := .tuple #[.agg #[.bool false, .slice none 0 0, .slice none 0 0], .int .i64 6]) (by simp [results, Tryz.results61, go_sem, r0, r1, r2]) rfl ?_
  exact ⟨rfl, below_put3 (bb hb0 b1) (by omega) (Nat.le_refl _) _ _ _⟩

set_option maxRecDepth 100000 in
set_option maxHeartbeats 4000000 in
theorem ev_form9 {w : World} {A B C : Option Addr} {n c m d l f N : Nat} {v ins fs : List Rat} {q : RQ} {a b : Int} (hq : q.ok w) (hv : SlQ w A n c v) (hi : SlQ w B m d ins) (hf : SlQ w C l f fs) (zv : AllSz N v) (zi : AllSz N ins) (zf : AllSz N fs) (hN : N ≤ 300) (hn : n ≤ 65536) (hm : m ≤ 65536) (hl : l ≤ 65536) (hlt : 0 < l) :
    Calls Tryz.prog 61 #[.agg #[.int .i64 9, .int .i64 a, .int .i64 b, .bool q.s, .slice q.A q.n q.c, .slice q.A' q.n' q.c'], .slice A n c, .slice B m d, .slice C l f] w (RetQE (fs.getD 0 0) 0 w) := by
  obtain ⟨V, hW, Ba, Br, hb0⟩ := boxes63 52 45 w #[.int .i64 9, .int .i64 a, .int .i64 b, .bool q.s, .slice q.A q.n q.c, .slice q.A' q.n' q.c'] #[.bool false, .slice none 0 0, .slice none 0 0]
  have K := ev_element (hf.below hb0) zf (by omega) hlt 6 hl
  have HK := Lib.hid K
  have HBr := Lib.hid Br
  have HW := Lib.hid hW
  clear K Ba Br hW hv hi hf zv zi zf hq
  go_enter Tryz.func61, Tryz.ntmps61
  go_wp2_with fail
  rw [HW.out]
  refine HK.out.mono ?_
  rintro _ w1 ⟨s1, A3, n3, c3, A4, n4, c4, rfl, q3, b1⟩
  have B9 := HBr.out.below' b1
  obtain ⟨⟨r0, r1, r2⟩, f0, f1, f2⟩ := B9.three
  go_wp2_with fail
  refine bodyPost_ret (v := .tuple #[.agg #[.bool s1, .slice A3 n3 c3, .slice A4 n4 c4], .int .i64 0]) (by simp [results, Tryz.results61, go_sem, r0, r1, r2]) rfl ?_
  exact ⟨_, _, _, _, _, _, _, rfl, q3.put3 ⟨_, _, _, _, _, _, _, B9⟩, below_put3 (bb hb0 b1) (by omega) (Nat.le_refl _) _ _ _⟩

set_option maxRecDepth 100000 in
set_option maxHeartbeats 4000000 in
theorem ev_form9_no {w : World} {A B C : Option Addr} {n c m d l f N : Nat} {v ins fs : List Rat} {q : RQ} {a b : Int} (hq : q.ok w) (hv : SlQ w A n c v) (hi : SlQ w B m d ins) (hf : SlQ w C l f fs) (zv : AllSz N v) (zi : AllSz N ins) (zf : AllSz N fs) (hN : N ≤ 300) (hn : n ≤ 65536) (hm : m ≤ 65536) (hl : l ≤ 65536) (hlt : ¬ 0 < l) :
    Calls Tryz.prog 61 #[.agg #[.int .i64 9, .int .i64 a, .int .i64 b, .bool q.s, .slice q.A q.n q.c, .slice q.A' q.n' q.c'], .slice A n c, .slice B m d, .slice C l f] w (RetNo 6 w) := by
  obtain ⟨V, hW, Ba, Br, hb0⟩ := boxes63 52 45 w #[.int .i64 9, .int .i64 a, .int .i64 b, .bool q.s, .slice q.A q.n q.c, .slice q.A' q.n' q.c'] #[.bool false, .slice none 0 0, .slice none 0 0]
  have K := ev_element_no (w := V) (A := C) (n := l) (c := f) (i := 0) hlt 6
  have HK := Lib.hid K
  have HBr := Lib.hid Br
  have HW := Lib.hid hW
  clear K Ba Br hW hv hi hf zv zi zf hq
  go_enter Tryz.func61, Tryz.ntmps61
  go_wp2_with fail
  rw [HW.out]
  refine HK.out.mono ?_
  rintro _ w1 ⟨rfl, b1⟩
  have B9 := HBr.out.below' b1
  obtain ⟨⟨r0, r1, r2⟩, f0, f1, f2⟩ := B9.three
  go_wp2_with fail
  refine bodyPost_ret (v := .tuple #[.agg #[.bool false, .slice none 0 0, .slice none 0 0], .int .i64 6]) (by simp [results, Tryz.results61, go_sem, r0, r1, r2]) rfl ?_
  exact ⟨rfl, below_put3 (bb hb0 b1) (by omega) (Nat.le_refl _) _ _ _⟩

set_option maxRecDepth 100000 in
set_option maxHeartbeats 4000000 in
theorem ev_form10 {w : World} {A B C : Option Addr} {n c m d l f N : Nat} {v ins fs : List Rat} {q : RQ} {a b : Int} (hq : q.ok w) (hv : SlQ w A n c v) (hi : SlQ w B m d ins) (hf : SlQ w C l f fs) (zv : AllSz N v) (zi : AllSz N ins) (zf : AllSz N fs) (hN : N ≤ 300) (hn : n ≤ 65536) (hm : m ≤ 65536) (hl : l ≤ 65536) (hlt : 0 < l) :
    Calls Tryz.prog 61 #[.agg #[.int .i64 10, .int .i64 a, .int .i64 b, .bool q.s, .slice q.A q.n q.c, .slice q.A' q.n' q.c'], .slice A n c, .slice B m d, .slice C l f] w (RetQE (fs.getD 0 0) 0 w) := by
  obtain ⟨V, hW, Ba, Br, hb0⟩ := boxes63 52 45 w #[.int .i64 10, .int .i64 a, .int .i64 b, .bool q.s, .slice q.A q.n q.c, .slice q.A' q.n' q.c'] #[.bool false, .slice none 0 0, .slice none 0 0]
  have K := ev_element (hf.below hb0) zf (by omega) hlt 6 hl
  have HK := Lib.hid K
  have HBr := Lib.hid Br
  have HW := Lib.hid hW
  clear K Ba Br hW hv hi hf zv zi zf hq
  go_enter Tryz.func61, Tryz.ntmps61
  go_wp2_with fail
  rw [HW.out]
  refine HK.out.mono ?_
  rintro _ w1 ⟨s1, A3, n3, c3, A4, n4, c4, rfl, q3, b1⟩
  have B9 := HBr.out.below' b1
  obtain ⟨⟨r0, r1, r2⟩, f0, f1, f2⟩ := B9.three
  go_wp2_with fail
  refine bodyPost_ret (v := .tuple #[.agg #[.bool s1, .slice A3 n3 c3, .slice A4 n4 c4], .int .i64 0]) (by simp [results, Tryz.results61, go_sem, r0, r1, r2]) rfl ?_
  exact ⟨_, _, _, _, _, _, _, rfl, q3.put3 ⟨_, _, _, _, _, _, _, B9⟩, below_put3 (bb hb0 b1) (by omega) (Nat.le_refl _) _ _ _⟩

set_option maxRecDepth 100000 in
set_option maxHeartbeats 4000000 in
theorem ev_form10_no {w : World} {A B C : Option Addr} {n c m d l f N : Nat} {v ins fs : List Rat} {q : RQ} {a b : Int} (hq : q.ok w) (hv : SlQ w A n c v) (hi : SlQ w B m d ins) (hf : SlQ w C l f fs) (zv : AllSz N v) (zi : AllSz N ins) (zf : AllSz N fs) (hN : N ≤ 300) (hn : n ≤ 65536) (hm : m ≤ 65536) (hl : l ≤ 65536) (hlt : ¬ 0 < l) :
    Calls Tryz.prog 61 #[.agg #[.int .i64 10, .int .i64 a, .int .i64 b, .bool q.s, .slice q.A q.n q.c, .slice q.A' q.n' q.c'], .slice A n c, .slice B m d, .slice C l f] w (RetNo 6 w) := by
  obtain ⟨V, hW, Ba, Br, hb0⟩ := boxes63 52 45 w #[.int .i64 10, .int .i64 a, .int .i64 b, .bool q.s, .slice q.A q.n q.c, .slice q.A' q.n' q.c'] #[.bool false, .slice none 0 0, .slice none 0 0]
  have K := ev_element_no (w := V) (A := C) (n := l) (c := f) (i := 0) hlt 6
  have HK := Lib.hid K
  have HBr := Lib.hid Br
  have HW := Lib.hid hW
  clear K Ba Br hW hv hi hf zv zi zf hq
  go_enter Tryz.func61, Tryz.ntmps61
  go_wp2_with fail
  rw [HW.out]
  refine HK.out.mono ?_
  rintro _ w1 ⟨rfl, b1⟩
  have B9 := HBr.out.below' b1
  obtain ⟨⟨r0, r1, r2⟩, f0, f1, f2⟩ := B9.three
  go_wp2_with fail
  refine bodyPost_ret (v := .tuple #[.agg #[.bool false, .slice none 0 0, .slice none 0 0], .int .i64 6]) (by simp [results, Tryz.results61, go_sem, r0, r1, r2]) rfl ?_
  exact ⟨rfl, below_put3 (bb hb0 b1) (by omega) (Nat.le_refl _) _ _ _⟩

set_option maxRecDepth 100000 in
set_option maxHeartbeats 4000000 in
theorem ev_neg {w : World} {A B C : Option Addr} {n c m d l f N : Nat} {v ins fs : List Rat} {q : RQ} {i : Nat} {b : Int} (hq : q.ok w) (hv : SlQ w A n c v) (hi : SlQ w B m d ins) (hf : SlQ w C l f fs) (zv : AllSz N v) (zi : AllSz N ins) (zf : AllSz N fs) (hN : N ≤ 300) (hn : n ≤ 65536) (hm : m ≤ 65536) (hl : l ≤ 65536) (hlt : i < n) :
    Calls Tryz.prog 61 #[.agg #[.int .i64 3, .int .i64 (i : Int), .int .i64 b, .bool q.s, .slice q.A q.n q.c, .slice q.A' q.n' q.c'], .slice A n c, .slice B m d, .slice C l f] w (RetQE (-(v.getD i 0)) 0 w) := by
  obtain ⟨V, hW, Ba, Br, hb0⟩ := boxes63 52 45 w #[.int .i64 3, .int .i64 (i : Int), .int .i64 b, .bool q.s, .slice q.A q.n q.c, .slice q.A' q.n' q.c'] #[.bool false, .slice none 0 0, .slice none 0 0]
  obtain ⟨b1, o1, sa, A1, n1, c1, A2, n2, c2, rfl, hb1, k0, k1, k2, qa⟩ := hv.at_ hlt
  have hlen := hv.len
  have K := rat_neg (qa.below hb0) (Nat.le_trans (qa.2.1.small (zv.at_ (by omega)).1) (by omega)) (Nat.le_trans (qa.2.2.small (zv.at_ (by omega)).2) (by omega))
  have HK := Lib.hid K
  have HBr := Lib.hid Br
  have HW := Lib.hid hW
  clear K Ba Br hW hv hi hf zv zi zf hq qa hlen
  go_enter Tryz.func61, Tryz.ntmps61
  go_wp2_with fail
  rw [HW.out]
  refine HK.out.mono ?_
  rintro _ w1 ⟨s1, A3, n3, c3, A4, n4, c4, rfl, q3, b1⟩
  have B9 := HBr.out.below' b1
  obtain ⟨⟨r0, r1, r2⟩, f0, f1, f2⟩ := B9.three
  go_wp2_with fail
  refine bodyPost_ret (v := .tuple #[.agg #[.bool s1, .slice A3 n3 c3, .slice A4 n4 c4], .int .i64 0]) (by simp [results, Tryz.results61, go_sem, r0, r1, r2]) rfl ?_
  exact ⟨_, _, _, _, _, _, _, rfl, q3.put3 ⟨_, _, _, _, _, _, _, B9⟩, below_put3 (bb hb0 b1) (by omega) (Nat.le_refl _) _ _ _⟩

set_option maxRecDepth 100000 in
set_option maxHeartbeats 4000000 in
theorem ev_add {w : World} {A B C : Option Addr} {n c m d l f N : Nat} {v ins fs : List Rat} {q : RQ} {i j : Nat} (hq : q.ok w) (hv : SlQ w A n c v) (hi : SlQ w B m d ins) (hf : SlQ w C l f fs) (zv : AllSz N v) (zi : AllSz N ins) (zf : AllSz N fs) (hN : N ≤ 300) (hn : n ≤ 65536) (hm : m ≤ 65536) (hl : l ≤ 65536) (hi1 : i < n) (hj1 : j < n) :
    Calls Tryz.prog 61 #[.agg #[.int .i64 4, .int .i64 (i : Int), .int .i64 (j : Int), .bool q.s, .slice q.A q.n q.c, .slice q.A' q.n' q.c'], .slice A n c, .slice B m d, .slice C l f] w (RetQE (v.getD i 0 + v.getD j 0) 0 w) := by
  obtain ⟨V, hW, Ba, Br, hb0⟩ := boxes63 52 45 w #[.int .i64 4, .int .i64 (i : Int), .int .i64 (j : Int), .bool q.s, .slice q.A q.n q.c, .slice q.A' q.n' q.c'] #[.bool false, .slice none 0 0, .slice none 0 0]
  obtain ⟨b1, o1, sa, A1, n1, c1, A2, n2, c2, rfl, hb1, k0, k1, k2, qa⟩ := hv.at_ hi1
  obtain ⟨b2, o2, sb, A5, n5, c5, A6, n6, c6, eb, hb2, j0, j1, j2, qb⟩ := hv.at_ hj1
  injection eb with eb
  injection eb with e1 e2
  subst e1 e2
  have hlen := hv.len
  have AD := fun (w1 : World) (hb : Below V.heap.size V w1) => rat_add (qa.below (bb hb0 hb)) (qb.below (bb hb0 hb)) (zv.at_ (by omega)) (zv.at_ (by omega)) (by omega)
  have hz := hb0.size
  have hS : ∀ w', Below V.heap.size V w' → (w'.cell? ⟨w.heap.size, 1, none⟩ = some (.int .i64 (i : Int)) ∧ w'.cell? ⟨w.heap.size, 2, none⟩ = some (.int .i64 (j : Int))) ∧ (w'.cell? ⟨b1, o1 + i * 3, none⟩ = some (.bool sa) ∧ w'.cell? ⟨b1, o1 + i * 3 + 1, none⟩ = some (.slice A1 n1 c1) ∧ w'.cell? ⟨b1, o1 + i * 3 + 2, none⟩ = some (.slice A2 n2 c2)) ∧ (w'.cell? ⟨b1, o1 + j * 3, none⟩ = some (.bool sb) ∧ w'.cell? ⟨b1, o1 + j * 3 + 1, none⟩ = some (.slice A5 n5 c5) ∧ w'.cell? ⟨b1, o1 + j * 3 + 2, none⟩ = some (.slice A6 n6 c6)) := fun w' hb =>
    ⟨⟨(Ba.below' hb).six.1.2.1, (Ba.below' hb).six.1.2.2.1⟩,
     ⟨((bb hb0 hb).cell (p := ⟨b1, o1 + i * 3, none⟩) hb1).trans k0, ((bb hb0 hb).cell (p := ⟨b1, o1 + i * 3 + 1, none⟩) hb1).trans k1, ((bb hb0 hb).cell (p := ⟨b1, o1 + i * 3 + 2, none⟩) hb1).trans k2⟩,
     ⟨((bb hb0 hb).cell (p := ⟨b1, o1 + j * 3, none⟩) hb1).trans j0, ((bb hb0 hb).cell (p := ⟨b1, o1 + j * 3 + 1, none⟩) hb1).trans j1, ((bb hb0 hb).cell (p := ⟨b1, o1 + j * 3 + 2, none⟩) hb1).trans j2⟩⟩
  have hP : ∀ (w' : World) (x0 x1 x2 : Value), Below V.heap.size V w' → (fun w' => (w'.cell? ⟨w.heap.size, 1, none⟩ = some (.int .i64 (i : Int)) ∧ w'.cell? ⟨w.heap.size, 2, none⟩ = some (.int .i64 (j : Int))) ∧ (w'.cell? ⟨b1, o1 + i * 3, none⟩ = some (.bool sa) ∧ w'.cell? ⟨b1, o1 + i * 3 + 1, none⟩ = some (.slice A1 n1 c1) ∧ w'.cell? ⟨b1, o1 + i * 3 + 2, none⟩ = some (.slice A2 n2 c2)) ∧ (w'.cell? ⟨b1, o1 + j * 3, none⟩ = some (.bool sb) ∧ w'.cell? ⟨b1, o1 + j * 3 + 1, none⟩ = some (.slice A5 n5 c5) ∧ w'.cell? ⟨b1, o1 + j * 3 + 2, none⟩ = some (.slice A6 n6 c6))) (put3 w' (w.heap.size + 1) x0 x1 x2) := fun w' x0 x1 x2 hb => by
    obtain ⟨⟨p1, p2⟩, ⟨p3, p4, p5⟩, p6, p7, p8⟩ := hS w' hb
    have hlt2 : b1 < w'.heap.size := Nat.lt_of_lt_of_le hb1 (Nat.le_trans hz hb.size)
    have hlt3 : w.heap.size < w'.heap.size := (Ba.below' hb).lt
    exact ⟨⟨(cell_put3 (by omega) hlt3).trans p1, (cell_put3 (by omega) hlt3).trans p2⟩, ⟨(cell_put3 (by omega) hlt2).trans p3, (cell_put3 (by omega) hlt2).trans p4, (cell_put3 (by omega) hlt2).trans p5⟩, (cell_put3 (by omega) hlt2).trans p6, (cell_put3 (by omega) hlt2).trans p7, (cell_put3 (by omega) hlt2).trans p8⟩
  generalize v.getD i 0 = X at *
  generalize v.getD j 0 = Y at *
  have HAD := Lib.hid AD
  have HS := Lib.hid hS
  have HP := Lib.hid hP
  have HBr := Lib.hid Br
  have HW := Lib.hid hW
  clear AD hS hP Ba Br hW hv hi hf zv zi zf hq qa qb hlen k0 k1 k2 j0 j1 j2 hb2
  go_enter Tryz.func61, Tryz.ntmps61
  go_wp2_with fail
  rw [HW.out]
  obtain ⟨⟨p1, p2⟩, ⟨p3, p4, p5⟩, p6, p7, p8⟩ := HS.out _ (Below.refl _ V)
  go_region_held3 (fun w' => (w'.cell? ⟨w.heap.size, 1, none⟩ = some (.int .i64 (i : Int)) ∧ w'.cell? ⟨w.heap.size, 2, none⟩ = some (.int .i64 (j : Int))) ∧ (w'.cell? ⟨b1, o1 + i * 3, none⟩ = some (.bool sa) ∧ w'.cell? ⟨b1, o1 + i * 3 + 1, none⟩ = some (.slice A1 n1 c1) ∧ w'.cell? ⟨b1, o1 + i * 3 + 2, none⟩ = some (.slice A2 n2 c2)) ∧ (w'.cell? ⟨b1, o1 + j * 3, none⟩ = some (.bool sb) ∧ w'.cell? ⟨b1, o1 + j * 3 + 1, none⟩ = some (.slice A5 n5 c5) ∧ w'.cell? ⟨b1, o1 + j * 3 + 2, none⟩ = some (.slice A6 n6 c6))) (first | exact HS.out _ (Below.refl _ V).drew | exact HS4.out | exact HS.out _ x2 | fail)
    (first
      | (go_at_call 18; (with_reducible refine (HAD.out _ ?hb1).mono ?_); (case hb1 => exact (Below.refl _ V).drew); rintro _ w2 ⟨s1, A3, n3, c3, A4, n4, c4, rfl, q3, b2⟩; have x2 : Below V.heap.size V w2 := Below.undrew b2; have HS4 := Lib.hid (HP.out w2 (.bool s1) (.slice A3 n3 c3) (.slice A4 n4 c4) x2); have B9 := HBr.out.below' x2; obtain ⟨⟨r0, r1, r2⟩, f0, f1, f2⟩ := B9.three))
  all_goals
    go_wp2_with fail
    refine bodyPost_ret (v := .tuple #[.agg #[.bool s1, .slice A3 n3 c3, .slice A4 n4 c4], .int .i64 0]) (by simp [results, Tryz.results61, go_sem, r0, r1, r2]) rfl ?_
    exact ⟨_, _, _, _, _, _, _, rfl, q3.put3 ⟨_, _, _, _, _, _, _, B9⟩, below_put3 (bb hb0 x2) (by omega) (Nat.le_refl _) _ _ _⟩

set_option maxRecDepth 100000 in
set_option maxHeartbeats 4000000 in
theorem ev_sub {w : World} {A B C : Option Addr} {n c m d l f N : Nat} {v ins fs : List Rat} {q : RQ} {i j : Nat} (hq : q.ok w) (hv : SlQ w A n c v) (hi : SlQ w B m d ins) (hf : SlQ w C l f fs) (zv : AllSz N v) (zi : AllSz N ins) (zf : AllSz N fs) (hN : N ≤ 300) (hn : n ≤ 65536) (hm : m ≤ 65536) (hl : l ≤ 65536) (hi1 : i < n) (hj1 : j < n) :
    Calls Tryz.prog 61 #[.agg #[.int .i64 5, .int .i64 (i : Int), .int .i64 (j : Int), .bool q.s, .slice q.A q.n q.c, .slice q.A' q.n' q.c'], .slice A n c, .slice B m d, .slice C l f] w (RetQE (v.getD i 0 - v.getD j 0) 0 w) := by
  obtain ⟨V, hW, Ba, Br, hb0⟩ := boxes63 52 45 w #[.int .i64 5, .int .i64 (i : Int), .int .i64 (j : Int), .bool q.s, .slice q.A q.n q.c, .slice q.A' q.n' q.c'] #[.bool false, .slice none 0 0, .slice none 0 0]
  obtain ⟨b1, o1, sa, A1, n1, c1, A2, n2, c2, rfl, hb1, k0, k1, k2, qa⟩ := hv.at_ hi1
  obtain ⟨b2, o2, sb, A5, n5, c5, A6, n6, c6, eb, hb2, j0, j1, j2, qb⟩ := hv.at_ hj1
  injection eb with eb
  injection eb with e1 e2
  subst e1 e2
  have hlen := hv.len
  have AD := fun (w1 : World) (hb : Below V.heap.size V w1) => rat_sub (qa.below (bb hb0 hb)) (qb.below (bb hb0 hb)) (zv.at_ (by omega)) (zv.at_ (by omega)) (by omega)
  have hz := hb0.size
  have hS : ∀ w', Below V.heap.size V w' → (w'.cell? ⟨w.heap.size, 1, none⟩ = some (.int .i64 (i : Int)) ∧ w'.cell? ⟨w.heap.size, 2, none⟩ = some (.int .i64 (j : Int))) ∧ (w'.cell? ⟨b1, o1 + i * 3, none⟩ = some (.bool sa) ∧ w'.cell? ⟨b1, o1 + i * 3 + 1, none⟩ = some (.slice A1 n1 c1) ∧ w'.cell? ⟨b1, o1 + i * 3 + 2, none⟩ = some (.slice A2 n2 c2)) ∧ (w'.cell? ⟨b1, o1 + j * 3, none⟩ = some (.bool sb) ∧ w'.cell? ⟨b1, o1 + j * 3 + 1, none⟩ = some (.slice A5 n5 c5) ∧ w'.cell? ⟨b1, o1 + j * 3 + 2, none⟩ = some (.slice A6 n6 c6)) := fun w' hb =>
    ⟨⟨(Ba.below' hb).six.1.2.1, (Ba.below' hb).six.1.2.2.1⟩,
     ⟨((bb hb0 hb).cell (p := ⟨b1, o1 + i * 3, none⟩) hb1).trans k0, ((bb hb0 hb).cell (p := ⟨b1, o1 + i * 3 + 1, none⟩) hb1).trans k1, ((bb hb0 hb).cell (p := ⟨b1, o1 + i * 3 + 2, none⟩) hb1).trans k2⟩,
     ⟨((bb hb0 hb).cell (p := ⟨b1, o1 + j * 3, none⟩) hb1).trans j0, ((bb hb0 hb).cell (p := ⟨b1, o1 + j * 3 + 1, none⟩) hb1).trans j1, ((bb hb0 hb).cell (p := ⟨b1, o1 + j * 3 + 2, none⟩) hb1).trans j2⟩⟩
  have hP : ∀ (w' : World) (x0 x1 x2 : Value), Below V.heap.size V w' → (fun w' => (w'.cell? ⟨w.heap.size, 1, none⟩ = some (.int .i64 (i : Int)) ∧ w'.cell? ⟨w.heap.size, 2, none⟩ = some (.int .i64 (j : Int))) ∧ (w'.cell? ⟨b1, o1 + i * 3, none⟩ = some (.bool sa) ∧ w'.cell? ⟨b1, o1 + i * 3 + 1, none⟩ = some (.slice A1 n1 c1) ∧ w'.cell? ⟨b1, o1 + i * 3 + 2, none⟩ = some (.slice A2 n2 c2)) ∧ (w'.cell? ⟨b1, o1 + j * 3, none⟩ = some (.bool sb) ∧ w'.cell? ⟨b1, o1 + j * 3 + 1, none⟩ = some (.slice A5 n5 c5) ∧ w'.cell? ⟨b1, o1 + j * 3 + 2, none⟩ = some (.slice A6 n6 c6))) (put3 w' (w.heap.size + 1) x0 x1 x2) := fun w' x0 x1 x2 hb => by
    obtain ⟨⟨p1, p2⟩, ⟨p3, p4, p5⟩, p6, p7, p8⟩ := hS w' hb
    have hlt2 : b1 < w'.heap.size := Nat.lt_of_lt_of_le hb1 (Nat.le_trans hz hb.size)
    have hlt3 : w.heap.size < w'.heap.size := (Ba.below' hb).lt
    exact ⟨⟨(cell_put3 (by omega) hlt3).trans p1, (cell_put3 (by omega) hlt3).trans p2⟩, ⟨(cell_put3 (by omega) hlt2).trans p3, (cell_put3 (by omega) hlt2).trans p4, (cell_put3 (by omega) hlt2).trans p5⟩, (cell_put3 (by omega) hlt2).trans p6, (cell_put3 (by omega) hlt2).trans p7, (cell_put3 (by omega) hlt2).trans p8⟩
  generalize v.getD i 0 = X at *
  generalize v.getD j 0 = Y at *
  have HAD := Lib.hid AD
  have HS := Lib.hid hS
  have HP := Lib.hid hP
  have HBr := Lib.hid Br
  have HW := Lib.hid hW
  clear AD hS hP Ba Br hW hv hi hf zv zi zf hq qa qb hlen k0 k1 k2 j0 j1 j2 hb2
  go_enter Tryz.func61, Tryz.ntmps61
  go_wp2_with fail
  rw [HW.out]
  obtain ⟨⟨p1, p2⟩, ⟨p3, p4, p5⟩, p6, p7, p8⟩ := HS.out _ (Below.refl _ V)
  go_region_held3 (fun w' => (w'.cell? ⟨w.heap.size, 1, none⟩ = some (.int .i64 (i : Int)) ∧ w'.cell? ⟨w.heap.size, 2, none⟩ = some (.int .i64 (j : Int))) ∧ (w'.cell? ⟨b1, o1 + i * 3, none⟩ = some (.bool sa) ∧ w'.cell? ⟨b1, o1 + i * 3 + 1, none⟩ = some (.slice A1 n1 c1) ∧ w'.cell? ⟨b1, o1 + i * 3 + 2, none⟩ = some (.slice A2 n2 c2)) ∧ (w'.cell? ⟨b1, o1 + j * 3, none⟩ = some (.bool sb) ∧ w'.cell? ⟨b1, o1 + j * 3 + 1, none⟩ = some (.slice A5 n5 c5) ∧ w'.cell? ⟨b1, o1 + j * 3 + 2, none⟩ = some (.slice A6 n6 c6))) (first | exact HS.out _ (Below.refl _ V).drew | exact HS4.out | exact HS.out _ x2 | fail)
    (first
      | (go_at_call 67; (with_reducible refine (HAD.out _ ?hb1).mono ?_); (case hb1 => exact (Below.refl _ V).drew); rintro _ w2 ⟨s1, A3, n3, c3, A4, n4, c4, rfl, q3, b2⟩; have x2 : Below V.heap.size V w2 := Below.undrew b2; have HS4 := Lib.hid (HP.out w2 (.bool s1) (.slice A3 n3 c3) (.slice A4 n4 c4) x2); have B9 := HBr.out.below' x2; obtain ⟨⟨r0, r1, r2⟩, f0, f1, f2⟩ := B9.three))
  all_goals
    go_wp2_with fail
    refine bodyPost_ret (v := .tuple #[.agg #[.bool s1, .slice A3 n3 c3, .slice A4 n4 c4], .int .i64 0]) (by simp [results, Tryz.results61, go_sem, r0, r1, r2]) rfl ?_
    exact ⟨_, _, _, _, _, _, _, rfl, q3.put3 ⟨_, _, _, _, _, _, _, B9⟩, below_put3 (bb hb0 x2) (by omega) (Nat.le_refl _) _ _ _⟩

set_option maxRecDepth 100000 in
set_option maxHeartbeats 4000000 in
theorem ev_mul {w : World} {A B C : Option Addr} {n c m d l f N : Nat} {v ins fs : List Rat} {q : RQ} {i j : Nat} (hq : q.ok w) (hv : SlQ w A n c v) (hi : SlQ w B m d ins) (hf : SlQ w C l f fs) (zv : AllSz N v) (zi : AllSz N ins) (zf : AllSz N fs) (hN : N ≤ 300) (hn : n ≤ 65536) (hm : m ≤ 65536) (hl : l ≤ 65536) (hi1 : i < n) (hj1 : j < n) :
    Calls Tryz.prog 61 #[.agg #[.int .i64 6, .int .i64 (i : Int), .int .i64 (j : Int), .bool q.s, .slice q.A q.n q.c, .slice q.A' q.n' q.c'], .slice A n c, .slice B m d, .slice C l f] w (RetQE (v.getD i 0 * v.getD j 0) 0 w) := by
  obtain ⟨V, hW, Ba, Br, hb0⟩ := boxes63 52 45 w #[.int .i64 6, .int .i64 (i : Int), .int .i64 (j : Int), .bool q.s, .slice q.A q.n q.c, .slice q.A' q.n' q.c'] #[.bool false, .slice none 0 0, .slice none 0 0]
  obtain ⟨b1, o1, sa, A1, n1, c1, A2, n2, c2, rfl, hb1, k0, k1, k2, qa⟩ := hv.at_ hi1
  obtain ⟨b2, o2, sb, A5, n5, c5, A6, n6, c6, eb, hb2, j0, j1, j2, qb⟩ := hv.at_ hj1
  injection eb with eb
  injection eb with e1 e2
  subst e1 e2
  have hlen := hv.len
  have AD := fun (w1 : World) (hb : Below V.heap.size V w1) => rat_mul (qa.below (bb hb0 hb)) (qb.below (bb hb0 hb)) (zv.at_ (by omega)) (zv.at_ (by omega)) (by omega)
  have hz := hb0.size
  have hS : ∀ w', Below V.heap.size V w' → (w'.cell? ⟨w.heap.size, 1, none⟩ = some (.int .i64 (i : Int)) ∧ w'.cell? ⟨w.heap.size, 2, none⟩ = some (.int .i64 (j : Int))) ∧ (w'.cell? ⟨b1, o1 + i * 3, none⟩ = some (.bool sa) ∧ w'.cell? ⟨b1, o1 + i * 3 + 1, none⟩ = some (.slice A1 n1 c1) ∧ w'.cell? ⟨b1, o1 + i * 3 + 2, none⟩ = some (.slice A2 n2 c2)) ∧ (w'.cell? ⟨b1, o1 + j * 3, none⟩ = some (.bool sb) ∧ w'.cell? ⟨b1, o1 + j * 3 + 1, none⟩ = some (.slice A5 n5 c5) ∧ w'.cell? ⟨b1, o1 + j * 3 + 2, none⟩ = some (.slice A6 n6 c6)) := fun w' hb =>
    ⟨⟨(Ba.below' hb).six.1.2.1, (Ba.below' hb).six.1.2.2.1⟩,
     ⟨((bb hb0 hb).cell (p := ⟨b1, o1 + i * 3, none⟩) hb1).trans k0, ((bb hb0 hb).cell (p := ⟨b1, o1 + i * 3 + 1, none⟩) hb1).trans k1, ((bb hb0 hb).cell (p := ⟨b1, o1 + i * 3 + 2, none⟩) hb1).trans k2⟩,
     ⟨((bb hb0 hb).cell (p := ⟨b1, o1 + j * 3, none⟩) hb1).trans j0, ((bb hb0 hb).cell (p := ⟨b1, o1 + j * 3 + 1, none⟩) hb1).trans j1, ((bb hb0 hb).cell (p := ⟨b1, o1 + j * 3 + 2, none⟩) hb1).trans j2⟩⟩
  have hP : ∀ (w' : World) (x0 x1 x2 : Value), Below V.heap.size V w' → (fun w' => (w'.cell? ⟨w.heap.size, 1, none⟩ = some (.int .i64 (i : Int)) ∧ w'.cell? ⟨w.heap.size, 2, none⟩ = some (.int .i64 (j : Int))) ∧ (w'.cell? ⟨b1, o1 + i * 3, none⟩ = some (.bool sa) ∧ w'.cell? ⟨b1, o1 + i * 3 + 1, none⟩ = some (.slice A1 n1 c1) ∧ w'.cell? ⟨b1, o1 + i * 3 + 2, none⟩ = some (.slice A2 n2 c2)) ∧ (w'.cell? ⟨b1, o1 + j * 3, none⟩ = some (.bool sb) ∧ w'.cell? ⟨b1, o1 + j * 3 + 1, none⟩ = some (.slice A5 n5 c5) ∧ w'.cell? ⟨b1, o1 + j * 3 + 2, none⟩ = some (.slice A6 n6 c6))) (put3 w' (w.heap.size + 1) x0 x1 x2) := fun w' x0 x1 x2 hb => by
    obtain ⟨⟨p1, p2⟩, ⟨p3, p4, p5⟩, p6, p7, p8⟩ := hS w' hb
    have hlt2 : b1 < w'.heap.size := Nat.lt_of_lt_of_le hb1 (Nat.le_trans hz hb.size)
    have hlt3 : w.heap.size < w'.heap.size := (Ba.below' hb).lt
    exact ⟨⟨(cell_put3 (by omega) hlt3).trans p1, (cell_put3 (by omega) hlt3).trans p2⟩, ⟨(cell_put3 (by omega) hlt2).trans p3, (cell_put3 (by omega) hlt2).trans p4, (cell_put3 (by omega) hlt2).trans p5⟩, (cell_put3 (by omega) hlt2).trans p6, (cell_put3 (by omega) hlt2).trans p7, (cell_put3 (by omega) hlt2).trans p8⟩
  generalize v.getD i 0 = X at *
  generalize v.getD j 0 = Y at *
  have HAD := Lib.hid AD
  have HS := Lib.hid hS
  have HP := Lib.hid hP
  have HBr := Lib.hid Br
  have HW := Lib.hid hW
  clear AD hS hP Ba Br hW hv hi hf zv zi zf hq qa qb hlen k0 k1 k2 j0 j1 j2 hb2
  go_enter Tryz.func61, Tryz.ntmps61
  go_wp2_with fail
  rw [HW.out]
  obtain ⟨⟨p1, p2⟩, ⟨p3, p4, p5⟩, p6, p7, p8⟩ := HS.out _ (Below.refl _ V)
  go_region_held3 (fun w' => (w'.cell? ⟨w.heap.size, 1, none⟩ = some (.int .i64 (i : Int)) ∧ w'.cell? ⟨w.heap.size, 2, none⟩ = some (.int .i64 (j : Int))) ∧ (w'.cell? ⟨b1, o1 + i * 3, none⟩ = some (.bool sa) ∧ w'.cell? ⟨b1, o1 + i * 3 + 1, none⟩ = some (.slice A1 n1 c1) ∧ w'.cell? ⟨b1, o1 + i * 3 + 2, none⟩ = some (.slice A2 n2 c2)) ∧ (w'.cell? ⟨b1, o1 + j * 3, none⟩ = some (.bool sb) ∧ w'.cell? ⟨b1, o1 + j * 3 + 1, none⟩ = some (.slice A5 n5 c5) ∧ w'.cell? ⟨b1, o1 + j * 3 + 2, none⟩ = some (.slice A6 n6 c6))) (first | exact HS.out _ (Below.refl _ V).drew | exact HS4.out | exact HS.out _ x2 | fail)
    (first
      | (go_at_call 19; (with_reducible refine (HAD.out _ ?hb1).mono ?_); (case hb1 => exact (Below.refl _ V).drew); rintro _ w2 ⟨s1, A3, n3, c3, A4, n4, c4, rfl, q3, b2⟩; have x2 : Below V.heap.size V w2 := Below.undrew b2; have HS4 := Lib.hid (HP.out w2 (.bool s1) (.slice A3 n3 c3) (.slice A4 n4 c4) x2); have B9 := HBr.out.below' x2; obtain ⟨⟨r0, r1, r2⟩, f0, f1, f2⟩ := B9.three))
  all_goals
    go_wp2_with fail
    refine bodyPost_ret (v := .tuple #[.agg #[.bool s1, .slice A3 n3 c3, .slice A4 n4 c4], .int .i64 0]) (by simp [results, Tryz.results61, go_sem, r0, r1, r2]) rfl ?_
    exact ⟨_, _, _, _, _, _, _, rfl, q3.put3 ⟨_, _, _, _, _, _, _, B9⟩, below_put3 (bb hb0 x2) (by omega) (Nat.le_refl _) _ _ _⟩

set_option maxRecDepth 100000 in
set_option maxHeartbeats 4000000 in
theorem ev_div {w : World} {A B C : Option Addr} {n c m d l f N : Nat} {v ins fs : List Rat} {q : RQ} {i j : Nat} (hq : q.ok w) (hv : SlQ w A n c v) (hi : SlQ w B m d ins) (hf : SlQ w C l f fs) (zv : AllSz N v) (zi : AllSz N ins) (zf : AllSz N fs) (hN : N ≤ 300) (hn : n ≤ 65536) (hm : m ≤ 65536) (hl : l ≤ 65536) (hi1 : i < n) (hj1 : j < n) (h0 : v.getD j 0 ≠ 0) :
    Calls Tryz.prog 61 #[.agg #[.int .i64 7, .int .i64 (i : Int), .int .i64 (j : Int), .bool q.s, .slice q.A q.n q.c, .slice q.A' q.n' q.c'], .slice A n c, .slice B m d, .slice C l f] w (RetQE (v.getD i 0 / v.getD j 0) 0 w) := by
  obtain ⟨V, hW, Ba, Br, hb0⟩ := boxes63 52 45 w #[.int .i64 7, .int .i64 (i : Int), .int .i64 (j : Int), .bool q.s, .slice q.A q.n q.c, .slice q.A' q.n' q.c'] #[.bool false, .slice none 0 0, .slice none 0 0]
  obtain ⟨b1, o1, sa, A1, n1, c1, A2, n2, c2, rfl, hb1, k0, k1, k2, qa⟩ := hv.at_ hi1
  obtain ⟨b2, o2, sb, A5, n5, c5, A6, n6, c6, eb, hb2, j0, j1, j2, qb⟩ := hv.at_ hj1
  injection eb with eb
  injection eb with e1 e2
  subst e1 e2
  have hlen := hv.len
  have AD := fun (w1 : World) (hb : Below V.heap.size V w1) => rat_div (qa.below (bb hb0 hb)) (qb.below (bb hb0 hb)) (zv.at_ (by omega)) (zv.at_ (by omega)) (by omega) h0
  have hz := hb0.size
  have hS : ∀ w', Below V.heap.size V w' → (w'.cell? ⟨w.heap.size, 1, none⟩ = some (.int .i64 (i : Int)) ∧ w'.cell? ⟨w.heap.size, 2, none⟩ = some (.int .i64 (j : Int))) ∧ (w'.cell? ⟨b1, o1 + i * 3, none⟩ = some (.bool sa) ∧ w'.cell? ⟨b1, o1 + i * 3 + 1, none⟩ = some (.slice A1 n1 c1) ∧ w'.cell? ⟨b1, o1 + i * 3 + 2, none⟩ = some (.slice A2 n2 c2)) ∧ (w'.cell? ⟨b1, o1 + j * 3, none⟩ = some (.bool sb) ∧ w'.cell? ⟨b1, o1 + j * 3 + 1, none⟩ = some (.slice A5 n5 c5) ∧ w'.cell? ⟨b1, o1 + j * 3 + 2, none⟩ = some (.slice A6 n6 c6)) := fun w' hb =>
    ⟨⟨(Ba.below' hb).six.1.2.1, (Ba.below' hb).six.1.2.2.1⟩,
     ⟨((bb hb0 hb).cell (p := ⟨b1, o1 + i * 3, none⟩) hb1).trans k0, ((bb hb0 hb).cell (p := ⟨b1, o1 + i * 3 + 1, none⟩) hb1).trans k1, ((bb hb0 hb).cell (p := ⟨b1, o1 + i * 3 + 2, none⟩) hb1).trans k2⟩,
     ⟨((bb hb0 hb).cell (p := ⟨b1, o1 + j * 3, none⟩) hb1).trans j0, ((bb hb0 hb).cell (p := ⟨b1, o1 + j * 3 + 1, none⟩) hb1).trans j1, ((bb hb0 hb).cell (p := ⟨b1, o1 + j * 3 + 2, none⟩) hb1).trans j2⟩⟩
  have hP : ∀ (w' : World) (x0 x1 x2 : Value), Below V.heap.size V w' → (fun w' => (w'.cell? ⟨w.heap.size, 1, none⟩ = some (.int .i64 (i : Int)) ∧ w'.cell? ⟨w.heap.size, 2, none⟩ = some (.int .i64 (j : Int))) ∧ (w'.cell? ⟨b1, o1 + i * 3, none⟩ = some (.bool sa) ∧ w'.cell? ⟨b1, o1 + i * 3 + 1, none⟩ = some (.slice A1 n1 c1) ∧ w'.cell? ⟨b1, o1 + i * 3 + 2, none⟩ = some (.slice A2 n2 c2)) ∧ (w'.cell? ⟨b1, o1 + j * 3, none⟩ = some (.bool sb) ∧ w'.cell? ⟨b1, o1 + j * 3 + 1, none⟩ = some (.slice A5 n5 c5) ∧ w'.cell? ⟨b1, o1 + j * 3 + 2, none⟩ = some (.slice A6 n6 c6))) (put3 w' (w.heap.size + 1) x0 x1 x2) := fun w' x0 x1 x2 hb => by
    obtain ⟨⟨p1, p2⟩, ⟨p3, p4, p5⟩, p6, p7, p8⟩ := hS w' hb
    have hlt2 : b1 < w'.heap.size := Nat.lt_of_lt_of_le hb1 (Nat.le_trans hz hb.size)
    have hlt3 : w.heap.size < w'.heap.size := (Ba.below' hb).lt
    exact ⟨⟨(cell_put3 (by omega) hlt3).trans p1, (cell_put3 (by omega) hlt3).trans p2⟩, ⟨(cell_put3 (by omega) hlt2).trans p3, (cell_put3 (by omega) hlt2).trans p4, (cell_put3 (by omega) hlt2).trans p5⟩, (cell_put3 (by omega) hlt2).trans p6, (cell_put3 (by omega) hlt2).trans p7, (cell_put3 (by omega) hlt2).trans p8⟩
  generalize v.getD i 0 = X at *
  generalize v.getD j 0 = Y at *
  have HAD := Lib.hid AD
  have HS := Lib.hid hS
  have HP := Lib.hid hP
  have HBr := Lib.hid Br
  have HW := Lib.hid hW
  clear AD hS hP Ba Br hW hv hi hf zv zi zf hq qa qb hlen k0 k1 k2 j0 j1 j2 hb2
  go_enter Tryz.func61, Tryz.ntmps61
  go_wp2_with fail
  rw [HW.out]
  obtain ⟨⟨p1, p2⟩, ⟨p3, p4, p5⟩, p6, p7, p8⟩ := HS.out _ (Below.refl _ V)
  go_region_held3 (fun w' => (w'.cell? ⟨w.heap.size, 1, none⟩ = some (.int .i64 (i : Int)) ∧ w'.cell? ⟨w.heap.size, 2, none⟩ = some (.int .i64 (j : Int))) ∧ (w'.cell? ⟨b1, o1 + i * 3, none⟩ = some (.bool sa) ∧ w'.cell? ⟨b1, o1 + i * 3 + 1, none⟩ = some (.slice A1 n1 c1) ∧ w'.cell? ⟨b1, o1 + i * 3 + 2, none⟩ = some (.slice A2 n2 c2)) ∧ (w'.cell? ⟨b1, o1 + j * 3, none⟩ = some (.bool sb) ∧ w'.cell? ⟨b1, o1 + j * 3 + 1, none⟩ = some (.slice A5 n5 c5) ∧ w'.cell? ⟨b1, o1 + j * 3 + 2, none⟩ = some (.slice A6 n6 c6))) (first | exact HS.out _ (Below.refl _ V).drew | exact HS4.out | exact HS.out _ x2 | fail)
    (first
      | (go_at_call 68; (with_reducible refine (HAD.out _ ?hb1).mono ?_); (case hb1 => exact (Below.refl _ V).drew); rintro _ w2 ⟨s1, A3, n3, c3, A4, n4, c4, rfl, q3, b2⟩; have x2 : Below V.heap.size V w2 := Below.undrew b2; have HS4 := Lib.hid (HP.out w2 (.bool s1) (.slice A3 n3 c3) (.slice A4 n4 c4) x2); have B9 := HBr.out.below' x2; obtain ⟨⟨r0, r1, r2⟩, f0, f1, f2⟩ := B9.three))
  all_goals
    go_wp2_with fail
    refine bodyPost_ret (v := .tuple #[.agg #[.bool s1, .slice A3 n3 c3, .slice A4 n4 c4], .int .i64 0]) (by simp [results, Tryz.results61, go_sem, r0, r1, r2]) rfl ?_
    exact ⟨_, _, _, _, _, _, _, rfl, q3.put3 ⟨_, _, _, _, _, _, _, B9⟩, below_put3 (bb hb0 x2) (by omega) (Nat.le_refl _) _ _ _⟩

set_option maxRecDepth 100000 in
set_option maxHeartbeats 4000000 in
theorem ev_div_no {w : World} {A B C : Option Addr} {n c m d l f N : Nat} {v ins fs : List Rat} {q : RQ} {i j : Nat} (hq : q.ok w) (hv : SlQ w A n c v) (hi : SlQ w B m d ins) (hf : SlQ w C l f fs) (zv : AllSz N v) (zi : AllSz N ins) (zf : AllSz N fs) (hN : N ≤ 300) (hn : n ≤ 65536) (hm : m ≤ 65536) (hl : l ≤ 65536) (hi1 : i < n) (hj1 : j < n) (h0 : v.getD j 0 = 0) :
    Calls Tryz.prog 61 #[.agg #[.int .i64 7, .int .i64 (i : Int), .int .i64 (j : Int), .bool q.s, .slice q.A q.n q.c, .slice q.A' q.n' q.c'], .slice A n c, .slice B m d, .slice C l f] w (RetNo 4 w) := by
  obtain ⟨V, hW, Ba, Br, hb0⟩ := boxes63 52 45 w #[.int .i64 7, .int .i64 (i : Int), .int .i64 (j : Int), .bool q.s, .slice q.A q.n q.c, .slice q.A' q.n' q.c'] #[.bool false, .slice none 0 0, .slice none 0 0]
  obtain ⟨b1, o1, sa, A1, n1, c1, A2, n2, c2, rfl, hb1, k0, k1, k2, qa⟩ := hv.at_ hi1
  obtain ⟨b2, o2, sb, A5, n5, c5, A6, n6, c6, eb, hb2, j0, j1, j2, qb⟩ := hv.at_ hj1
  injection eb with eb
  injection eb with e1 e2
  subst e1 e2
  have hlen := hv.len
  have AD := fun (w1 : World) (hb : Below V.heap.size V w1) => rat_div_zero (qa.below (bb hb0 hb)) (qb.below (bb hb0 hb)) (zv.at_ (by omega)) (zv.at_ (by omega)) (by omega) h0
  have hz := hb0.size
  have hS : ∀ w', Below V.heap.size V w' → (w'.cell? ⟨w.heap.size, 1, none⟩ = some (.int .i64 (i : Int)) ∧ w'.cell? ⟨w.heap.size, 2, none⟩ = some (.int .i64 (j : Int))) ∧ (w'.cell? ⟨b1, o1 + i * 3, none⟩ = some (.bool sa) ∧ w'.cell? ⟨b1, o1 + i * 3 + 1, none⟩ = some (.slice A1 n1 c1) ∧ w'.cell? ⟨b1, o1 + i * 3 + 2, none⟩ = some (.slice A2 n2 c2)) ∧ (w'.cell? ⟨b1, o1 + j * 3, none⟩ = some (.bool sb) ∧ w'.cell? ⟨b1, o1 + j * 3 + 1, none⟩ = some (.slice A5 n5 c5) ∧ w'.cell? ⟨b1, o1 + j * 3 + 2, none⟩ = some (.slice A6 n6 c6)) := fun w' hb =>
    ⟨⟨(Ba.below' hb).six.1.2.1, (Ba.below' hb).six.1.2.2.1⟩,
     ⟨((bb hb0 hb).cell (p := ⟨b1, o1 + i * 3, none⟩) hb1).trans k0, ((bb hb0 hb).cell (p := ⟨b1, o1 + i * 3 + 1, none⟩) hb1).trans k1, ((bb hb0 hb).cell (p := ⟨b1, o1 + i * 3 + 2, none⟩) hb1).trans k2⟩,
     ⟨((bb hb0 hb).cell (p := ⟨b1, o1 + j * 3, none⟩) hb1).trans j0, ((bb hb0 hb).cell (p := ⟨b1, o1 + j * 3 + 1, none⟩) hb1).trans j1, ((bb hb0 hb).cell (p := ⟨b1, o1 + j * 3 + 2, none⟩) hb1).trans j2⟩⟩
  have hP : ∀ (w' : World) (x0 x1 x2 : Value), Below V.heap.size V w' → (fun w' => (w'.cell? ⟨w.heap.size, 1, none⟩ = some (.int .i64 (i : Int)) ∧ w'.cell? ⟨w.heap.size, 2, none⟩ = some (.int .i64 (j : Int))) ∧ (w'.cell? ⟨b1, o1 + i * 3, none⟩ = some (.bool sa) ∧ w'.cell? ⟨b1, o1 + i * 3 + 1, none⟩ = some (.slice A1 n1 c1) ∧ w'.cell? ⟨b1, o1 + i * 3 + 2, none⟩ = some (.slice A2 n2 c2)) ∧ (w'.cell? ⟨b1, o1 + j * 3, none⟩ = some (.bool sb) ∧ w'.cell? ⟨b1, o1 + j * 3 + 1, none⟩ = some (.slice A5 n5 c5) ∧ w'.cell? ⟨b1, o1 + j * 3 + 2, none⟩ = some (.slice A6 n6 c6))) (put3 w' (w.heap.size + 1) x0 x1 x2) := fun w' x0 x1 x2 hb => by
    obtain ⟨⟨p1, p2⟩, ⟨p3, p4, p5⟩, p6, p7, p8⟩ := hS w' hb
    have hlt2 : b1 < w'.heap.size := Nat.lt_of_lt_of_le hb1 (Nat.le_trans hz hb.size)
    have hlt3 : w.heap.size < w'.heap.size := (Ba.below' hb).lt
    exact ⟨⟨(cell_put3 (by omega) hlt3).trans p1, (cell_put3 (by omega) hlt3).trans p2⟩, ⟨(cell_put3 (by omega) hlt2).trans p3, (cell_put3 (by omega) hlt2).trans p4, (cell_put3 (by omega) hlt2).trans p5⟩, (cell_put3 (by omega) hlt2).trans p6, (cell_put3 (by omega) hlt2).trans p7, (cell_put3 (by omega) hlt2).trans p8⟩
  generalize v.getD i 0 = X at *
  generalize v.getD j 0 = Y at *
  have HAD := Lib.hid AD
  have HS := Lib.hid hS
  have HP := Lib.hid hP
  have HBr := Lib.hid Br
  have HW := Lib.hid hW
  clear AD hS hP Ba Br hW hv hi hf zv zi zf hq qa qb hlen k0 k1 k2 j0 j1 j2 hb2
  go_enter Tryz.func61, Tryz.ntmps61
  go_wp2_with fail
  rw [HW.out]
  obtain ⟨⟨p1, p2⟩, ⟨p3, p4, p5⟩, p6, p7, p8⟩ := HS.out _ (Below.refl _ V)
  go_region_held3 (fun w' => (w'.cell? ⟨w.heap.size, 1, none⟩ = some (.int .i64 (i : Int)) ∧ w'.cell? ⟨w.heap.size, 2, none⟩ = some (.int .i64 (j : Int))) ∧ (w'.cell? ⟨b1, o1 + i * 3, none⟩ = some (.bool sa) ∧ w'.cell? ⟨b1, o1 + i * 3 + 1, none⟩ = some (.slice A1 n1 c1) ∧ w'.cell? ⟨b1, o1 + i * 3 + 2, none⟩ = some (.slice A2 n2 c2)) ∧ (w'.cell? ⟨b1, o1 + j * 3, none⟩ = some (.bool sb) ∧ w'.cell? ⟨b1, o1 + j * 3 + 1, none⟩ = some (.slice A5 n5 c5) ∧ w'.cell? ⟨b1, o1 + j * 3 + 2, none⟩ = some (.slice A6 n6 c6))) (first | exact HS.out _ (Below.refl _ V).drew | exact HS4.out | exact HS.out _ x2 | fail)
    (first
      | (go_at_call 68; (with_reducible refine (HAD.out _ ?hb1).mono ?_); (case hb1 => exact (Below.refl _ V).drew); rintro _ w2 ⟨rfl, b2⟩; have x2 : Below V.heap.size V w2 := Below.undrew b2; have HS4 := Lib.hid (HP.out w2 (.bool false) (.slice none 0 0) (.slice none 0 0) x2); have B9 := HBr.out.below' x2; obtain ⟨⟨r0, r1, r2⟩, f0, f1, f2⟩ := B9.three))
  all_goals
    go_wp2_with fail
    refine bodyPost_ret (v := .tuple #[.agg #[.bool false, .slice none 0 0, .slice none 0 0], .int .i64 4]) (by simp [results, Tryz.results61, go_sem, r0, r1, r2]) rfl ?_
    exact ⟨rfl, below_put3 (bb hb0 x2) (by omega) (Nat.le_refl _) _ _ _⟩

end Go.Proofs.YtfhihapgjiaobaaGreat

namespace Go.Proofs.YtfhihapgjiaobaaGreat
set_option maxRecDepth 100000
open Go.RowKit
set_option linter.unusedVariables false
set_option linter.unusedSimpArgs false

theorem fit_in {a b : Int} {q : Bool × List Int × List Int} {n : Nat} (h : fits vq nq ⟨1, a, b, q⟩ n) : 0 ≤ a ∧ a < 65536 := by
  unfold fits at h
  simp at h
  exact ⟨h.2.1, h.2.2.1⟩
theorem fit_const {a b : Int} {q : Bool × List Int × List Int} {n : Nat} (h : fits vq nq ⟨2, a, b, q⟩ n) : vq q = true := by
  unfold fits at h
  simp at h
  exact h.2.2
theorem fit_one {op a b : Int} {q : Bool × List Int × List Int} {n : Nat} (h2 : ¬ op = 2) (h1 : ¬ op = 1) (ha : arity op = 1) (h : fits vq nq ⟨op, a, b, q⟩ n) : 0 ≤ a ∧ a < n := by
  unfold fits at h
  simp only at h
  rw [if_neg h2, if_neg h1, if_pos ha] at h
  exact ⟨h.2.1, h.2.2.1⟩
theorem fit_two {op a b : Int} {q : Bool × List Int × List Int} {n : Nat} (h2 : ¬ op = 2) (h1 : ¬ op = 1) (ha : arity op = 2) (h : fits vq nq ⟨op, a, b, q⟩ n) : 0 ≤ a ∧ a < n ∧ 0 ≤ b ∧ b < n := by
  unfold fits at h
  simp only at h
  rw [if_neg h2, if_neg h1, if_neg (by omega)] at h
  exact ⟨h.2.2.1, h.2.2.2.1, h.2.2.2.2.1, h.2.2.2.2.2⟩
theorem fit_no {op a b : Int} {q : Bool × List Int × List Int} {n : Nat} (h2 : ¬ op = 2) (h1 : ¬ op = 1) (ha : arity op = -1) (h : fits vq nq ⟨op, a, b, q⟩ n) : False := by
  unfold fits at h
  simp only at h
  rw [if_neg h2, if_neg h1, if_neg (by omega)] at h
  omega
theorem raw_err {ins fs v : List Rat} {x : PI} {e : Int} (h : raw ins fs x v = .error e) : e = 4 ∨ e = 6 ∨ e = 11 := by
  unfold raw at h
  split at h
  · split at h
    · cases h
    · injection h with h; omega
  · split at h
    · cases h
    · split at h
      · cases h
      · split at h
        · cases h
        · split at h
          · cases h
          · split at h
            · cases h
            · split at h
              · split at h
                · injection h with h; omega
                · cases h
              · split at h
                · cases h
                · injection h with h; omega
theorem ev_value {w : World} {A B C : Option Addr} {n c m d l f : Nat} {v ins fs : List Rat} {x : RI} (hx : x.ok w) (hv : SlQ w A n c v) (hi : SlQ w B m d ins) (hf : SlQ w C l f fs) (zv : AllSz 64 v) (zi : AllSz 64 ins) (zf : AllSz 64 fs) (hn : n ≤ 65536) (hm : m ≤ 65536) (hl : l ≤ 65536) (h1 : x.q.n ≤ 64) (h2 : x.q.n' ≤ 64) (hfit : fits vq nq x.pi n) :
    Calls Tryz.prog 61 #[.agg #[.int .i64 x.op, .int .i64 x.a, .int .i64 x.b, .bool x.q.s, .slice x.q.A x.q.n x.q.c, .slice x.q.A' x.q.n' x.q.c'], .slice A n c, .slice B m d, .slice C l f] w (RetEV (raw ins fs x.pi v) w) := by
  obtain ⟨op, a, b, q⟩ := x
  obtain ⟨_, _, _, hq⟩ := hx
  have hlv := hv.len
  have hli := hi.len
  have hlf := hf.len
  simp only at h1 h2 hq ⊢
  have hfit : fits vq nq ⟨op, a, b, (q.s, q.z, q.z')⟩ n := hfit
  show Calls _ _ _ w (RetEV (raw ins fs ⟨op, a, b, (q.s, q.z, q.z')⟩ v) w)
  rcases op_cases op with (rfl | rfl | rfl | rfl | rfl | rfl | rfl | rfl | rfl | rfl) | hno
  · obtain ⟨g1, g2⟩ := fit_in hfit
    obtain ⟨i, rfl⟩ : ∃ i : Nat, a = (i : Int) := ⟨a.toNat, by omega⟩
    by_cases hlt : i < m
    · rw [raw_in (by simpa using (by omega : i < ins.length))]
      exact ev_in hq hv hi hf zv zi zf (by omega) hn hm hl hlt
    · rw [raw_in_no (by simpa using (by omega : ¬ i < ins.length))]
      exact ev_in_no hq hv hi hf zv zi zf (by omega) hn hm hl hlt
  · obtain ⟨X, g1, g2, g3⟩ := right_Q hq.1 hq.2.1 h1 h2 (fit_const hfit)
    rw [raw_const]
    have e : qval (q.s, q.z, q.z') = X := g3.symm
    rw [e]
    exact ev_const hq hv hi hf zv zi zf (by omega) hn hm hl g1 g2
  · obtain ⟨g1, g2⟩ := fit_one (by decide) (by decide) (by decide) hfit
    obtain ⟨i, rfl⟩ : ∃ i : Nat, a = (i : Int) := ⟨a.toNat, by omega⟩
    rw [raw_neg]
    exact ev_neg hq hv hi hf zv zi zf (by omega) hn hm hl (by omega)
  · obtain ⟨g1, g2, g3, g4⟩ := fit_two (by decide) (by decide) (by decide) hfit
    obtain ⟨i, rfl⟩ : ∃ i : Nat, a = (i : Int) := ⟨a.toNat, by omega⟩
    obtain ⟨j, rfl⟩ : ∃ j : Nat, b = (j : Int) := ⟨b.toNat, by omega⟩
    rw [raw_add]
    exact ev_add hq hv hi hf zv zi zf (by omega) hn hm hl (by omega) (by omega)
  · obtain ⟨g1, g2, g3, g4⟩ := fit_two (by decide) (by decide) (by decide) hfit
    obtain ⟨i, rfl⟩ : ∃ i : Nat, a = (i : Int) := ⟨a.toNat, by omega⟩
    obtain ⟨j, rfl⟩ : ∃ j : Nat, b = (j : Int) := ⟨b.toNat, by omega⟩
    rw [raw_sub]
    exact ev_sub hq hv hi hf zv zi zf (by omega) hn hm hl (by omega) (by omega)
  · obtain ⟨g1, g2, g3, g4⟩ := fit_two (by decide) (by decide) (by decide) hfit
    obtain ⟨i, rfl⟩ : ∃ i : Nat, a = (i : Int) := ⟨a.toNat, by omega⟩
    obtain ⟨j, rfl⟩ : ∃ j : Nat, b = (j : Int) := ⟨b.toNat, by omega⟩
    rw [raw_mul]
    exact ev_mul hq hv hi hf zv zi zf (by omega) hn hm hl (by omega) (by omega)
  · obtain ⟨g1, g2, g3, g4⟩ := fit_two (by decide) (by decide) (by decide) hfit
    obtain ⟨i, rfl⟩ : ∃ i : Nat, a = (i : Int) := ⟨a.toNat, by omega⟩
    obtain ⟨j, rfl⟩ : ∃ j : Nat, b = (j : Int) := ⟨b.toNat, by omega⟩
    by_cases h0 : v.getD j 0 = 0
    · rw [raw_div_no (by simpa using h0)]
      exact ev_div_no hq hv hi hf zv zi zf (by omega) hn hm hl (by omega) (by omega) h0
    · rw [raw_div (by simpa using h0)]
      exact ev_div hq hv hi hf zv zi zf (by omega) hn hm hl (by omega) (by omega) h0
  · by_cases hlt : 0 < l
    · rw [raw_form (by decide) (by omega)]
      exact ev_form8 hq hv hi hf zv zi zf (by omega) hn hm hl hlt
    · rw [raw_form_no (by decide) (by omega)]
      exact ev_form8_no hq hv hi hf zv zi zf (by omega) hn hm hl hlt
  · by_cases hlt : 0 < l
    · rw [raw_form (by decide) (by omega)]
      exact ev_form9 hq hv hi hf zv zi zf (by omega) hn hm hl hlt
    · rw [raw_form_no (by decide) (by omega)]
      exact ev_form9_no hq hv hi hf zv zi zf (by omega) hn hm hl hlt
  · by_cases hlt : 0 < l
    · rw [raw_form (by decide) (by omega)]
      exact ev_form10 hq hv hi hf zv zi zf (by omega) hn hm hl hlt
    · rw [raw_form_no (by decide) (by omega)]
      exact ev_form10_no hq hv hi hf zv zi zf (by omega) hn hm hl hlt
  · exact (fit_no hno.2.1 hno.1 (arity_no hno) hfit).elim
/-- the value is not too long -/
theorem raw_sz {ins fs v : List Rat} {x : PI} {X : Rat} {n : Nat} (h : raw ins fs x v = .ok X) (hfit : fits vq nq x n) (hn : n = v.length) (zv : AllSz 64 v) (zi : AllSz 64 ins) (zf : AllSz 64 fs) (zq : x.op = 2 → Sz (qval x.q) 64) : Sz X 130 := by
  obtain ⟨op, a, b, q⟩ := x
  rcases op_cases op with (rfl | rfl | rfl | rfl | rfl | rfl | rfl | rfl | rfl | rfl) | hno
  · by_cases hlt : a.toNat < ins.length
    · rw [raw_in hlt] at h; cases h
      exact (zi.at_ hlt).mono (by omega)
    · rw [raw_in_no hlt] at h; cases h
  · rw [raw_const] at h; cases h
    exact (zq rfl).mono (by omega)
  · obtain ⟨g1, g2⟩ := fit_one (by decide) (by decide) (by decide) hfit
    rw [raw_neg] at h; cases h
    exact ((zv.at_ (by omega)).neg).mono (by omega)
  · obtain ⟨g1, g2, g3, g4⟩ := fit_two (by decide) (by decide) (by decide) hfit
    rw [raw_add] at h; cases h
    exact ((zv.at_ (by omega)).add (zv.at_ (by omega))).mono (by omega)
  · obtain ⟨g1, g2, g3, g4⟩ := fit_two (by decide) (by decide) (by decide) hfit
    rw [raw_sub] at h; cases h
    exact ((zv.at_ (by omega)).sub (zv.at_ (by omega))).mono (by omega)
  · obtain ⟨g1, g2, g3, g4⟩ := fit_two (by decide) (by decide) (by decide) hfit
    rw [raw_mul] at h; cases h
    exact ((zv.at_ (by omega)).mul (zv.at_ (by omega))).mono (by omega)
  · obtain ⟨g1, g2, g3, g4⟩ := fit_two (by decide) (by decide) (by decide) hfit
    by_cases h0 : v.getD b.toNat 0 = 0
    · rw [raw_div_no h0] at h; cases h
    · rw [raw_div h0] at h; cases h
      rw [Rat.div_def]
      exact ((zv.at_ (by omega)).mul (zv.at_ (by omega)).inv).mono (by omega)
  all_goals first
    | (by_cases hlt : 0 < fs.length
       · rw [raw_form (by decide) hlt] at h; cases h
         exact (zf.at_ hlt).mono (by omega)
       · rw [raw_form_no (by decide) hlt] at h; cases h)
    | exact (fit_no hno.2.1 hno.1 (arity_no hno) hfit).elim

end Go.Proofs.YtfhihapgjiaobaaGreat

namespace Go.Proofs.YtfhihapgjiaobaaGreat
set_option maxRecDepth 100000
open Go.RowKit
set_option linter.unusedVariables false
set_option linter.unusedSimpArgs false

/-- what an instruction's derivative is divided by; y: its value, v: all values -/
def tden (x : PI) (y : Rat) (v : List Rat) : Rat := if x.op = 7 then v.getD x.b.toNat 0 else if x.op = 8 then y + y else if x.op = 10 then v.getD x.a.toNat 0 else 1
/-- how an instruction goes along with its first operand -/
def dA (x : PI) (y : Rat) (v : List Rat) : Rat :=
  if x.op = 3 then -1 else if x.op = 4 then 1 else if x.op = 5 then 1 else if x.op = 6 then v.getD x.b.toNat 0 else if x.op = 9 then y else (tden x y v)⁻¹
/-- .. and with its second one -/
def dB (x : PI) (y : Rat) (v : List Rat) : Rat :=
  if x.op = 4 then 1 else if x.op = 5 then -1 else if x.op = 6 then v.getD x.a.toNat 0 else if x.op = 7 then -(y * (tden x y v)⁻¹) else 0
/-- the tangent of an instruction, by those of the ones ahead -/
def tanR (dirs : List Rat) (x : PI) (y : Rat) (v t : List Rat) : Except Int Rat :=
  if x.op = 1 then .ok (dirs.getD x.a.toNat 0) else if x.op = 2 then .ok 0
  else if tden x y v = 0 then .error 4 else .ok (dA x y v * t.getD x.a.toNat 0 + dB x y v * t.getD x.b.toNat 0)
def tanSt (dirs v : List Rat) (i : Nat) (x : PI) (t : List Rat) : Except Int Rat := big (tanR dirs x (v.getD i 0) v t)
/-- a number added to an element -/
def addAt (h : List Rat) (a : Nat) (g : Rat) : List Rat := h.set a (h.getD a 0 + g)
theorem addAt_len (h : List Rat) (a : Nat) (g : Rat) : (addAt h a g).length = h.length := by unfold addAt; rw [List.length_set]
theorem addAt_same {h : List Rat} {a : Nat} (g : Rat) (ha : a < h.length) : (addAt h a g).getD a 0 = h.getD a 0 + g := by
  unfold addAt
  rw [List.getD_eq_getElem?_getD, List.getElem?_set, if_pos rfl, if_pos ha]; rfl
theorem addAt_other {h : List Rat} {a j : Nat} (g : Rat) (ha : a ≠ j) : (addAt h a g).getD j 0 = h.getD j 0 := by
  unfold addAt
  rw [List.getD_eq_getElem?_getD, List.getElem?_set, if_neg ha, ← List.getD_eq_getElem?_getD]
/-- what the outputs have at first -/
def seedTo (outs : List Int) (cots : List Rat) (n : Nat) : Nat → List Rat
  | 0 => List.replicate n 0
  | k + 1 => addAt (seedTo outs cots n k) (outs.getD k 0).toNat (cots.getD k 0)
/-- one instruction gives on what it has: what the instructions have, what the inputs have -/
def giveSt (v : List Rat) (i : Nat) (x : PI) (s : List Rat × List Rat) : Except Int (List Rat × List Rat) :=
  if 4096 < bitsQ (s.1.getD i 0) then .error 5
  else if x.op = 1 then .ok (s.1, addAt s.2 x.a.toNat (s.1.getD i 0))
  else if arity x.op < 1 then .ok s
  else if tden x (v.getD i 0) v = 0 then .error 4
  else .ok (if arity x.op = 2 then addAt (addAt s.1 x.a.toNat (s.1.getD i 0 * dA x (v.getD i 0) v)) x.b.toNat (s.1.getD i 0 * dB x (v.getD i 0) v) else addAt s.1 x.a.toNat (s.1.getD i 0 * dA x (v.getD i 0) v), s.2)
/-- from instruction i - 1 back to the first -/
def giveTo (v : List Rat) (l : List PI) : Nat → List Rat × List Rat → Except (Nat × Int) (List Rat × List Rat)
  | 0, s => .ok s
  | i + 1, s => match giveSt v i (l.getD i PI.nil) s with
    | .error e => .error (i, e)
    | .ok s' => giveTo v l i s'
theorem giveTo_err {v : List Rat} {l : List PI} {i : Nat} {s : List Rat × List Rat} {e : Int} (h : giveSt v i (l.getD i PI.nil) s = .error e) : giveTo v l (i + 1) s = .error (i, e) := by
  show (match giveSt v i (l.getD i PI.nil) s with | .error e => _ | .ok s' => _) = _
  rw [h]
theorem giveTo_ok {v : List Rat} {l : List PI} {i : Nat} {s s' : List Rat × List Rat} (h : giveSt v i (l.getD i PI.nil) s = .ok s') : giveTo v l (i + 1) s = giveTo v l i s' := by
  show (match giveSt v i (l.getD i PI.nil) s with | .error e => _ | .ok s' => _) = _
  rw [h]
end Go.Proofs.YtfhihapgjiaobaaGreat
