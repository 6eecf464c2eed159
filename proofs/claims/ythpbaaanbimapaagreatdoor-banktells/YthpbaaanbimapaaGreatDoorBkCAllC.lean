/-
  Operations of a bank on exact numbers, by kind. Conditions: as each lemma says.
-/
import Derived.Test.YthpbaaanbimapaaGreatDoorBkLineAllC
import Derived.Test.YthpbaaanbimapaaGreatDoorLimbDivAllC
import Derived.Test.YthpbaaanbimapaaGreatDoorQuotWordAllC
import Derived.Test.YthpbaaanbimapaaGreatDoorGcdMathAllC
import Derived.Laws.BytesArg
import Derived.Test.YthpbaaanbimapaaGreatDoorZOwnAllC
namespace Go.Proofs.YthpbaaanbimapaaGreatDoor
set_option maxRecDepth 100000
open Go.RowKit
set_option linter.unusedVariables false
set_option linter.unusedSimpArgs false

section
attribute [local go_sem] Instr.field part asAgg isAgg sizeOf
theorem bk_ops {w : World} {F : List Nat} {g : Nat} {b : PB} (h : Bk w F g b) : Calls Tryz.prog 15 #[.pointer (some ⟨g, 0, none⟩)] w (RetI b.ops w) := by
  have M := bk_mark h
  unfold PB.mark mkCells at M
  clear h
  go_enter Tryz.func15, Tryz.ntmps15
  go_wp2_with fail
  refine M.mono ?_
  rintro _ w1 ⟨rfl, b1⟩
  go_wp2_with fail
  go_ret
  exact ⟨rfl, b1⟩
end

/-- a scalar as it lies -/
structure SV where
  s : Bool
  A : Option Addr
  n : Nat
  c : Nat
  D : Option Addr
  m : Nat
  d : Nat
  u : Int
  f : Int
def SV.agg (x : SV) : Array Value := #[.bool x.s, .slice x.A x.n x.c, .slice x.D x.m x.d, .int .u64 x.u, .int .i64 x.f]
def SV.zero : SV := ⟨false, none, 0, 0, none, 0, 0, 0, 0⟩
/-- it reads as p -/
def SV.is (w : World) (x : SV) (p : PV) : Prop := x.u = p.w ∧ x.f = p.f ∧ match p.r with
  | none => x.s = false ∧ x.A = none ∧ x.n = 0 ∧ x.c = 0 ∧ x.D = none ∧ x.m = 0 ∧ x.d = 0
  | some X => Q w x.s x.A x.n x.c x.D x.m x.d X
theorem SV.is_wk {w w' : World} {x : SV} {p : PV} (h : x.is w p) (hk : WK w w') : x.is w' p := by
  refine ⟨h.1, h.2.1, ?_⟩
  have h3 := h.2.2
  cases hp : p.r with
  | none => rw [hp] at h3; exact h3
  | some X => rw [hp] at h3; exact Q.wk h3 hk
theorem Box.five {t : TypeId} {w : World} {g : Nat} {v0 v1 v2 v3 v4 : Value} (h : Box t w g #[v0, v1, v2, v3, v4]) :
    (w.cell? ⟨g, 0, none⟩ = some v0 ∧ w.cell? ⟨g, 1, none⟩ = some v1 ∧ w.cell? ⟨g, 2, none⟩ = some v2 ∧ w.cell? ⟨g, 3, none⟩ = some v3 ∧ w.cell? ⟨g, 4, none⟩ = some v4) ∧
    (w.frozen? ⟨g, 0, none⟩ = false ∧ w.frozen? ⟨g, 1, none⟩ = false ∧ w.frozen? ⟨g, 2, none⟩ = false ∧ w.frozen? ⟨g, 3, none⟩ = false ∧ w.frozen? ⟨g, 4, none⟩ = false) :=
  ⟨⟨h.cell 0, h.cell 1, h.cell 2, h.cell 3, h.cell 4⟩, h.free 0, h.free 1, h.free 2, h.free 3, h.free 4⟩
/-- a box of a scalar holds no word, but its bits -/
theorem boxesV (t1 t2 : TypeId) (w : World) (vs us : Array Value) : ∃ W, (w.alloc (.cells vs t1)).alloc (.cells us t2) = W ∧ Box t1 W w.heap.size vs ∧ Box t2 W (w.heap.size + 1) us ∧ Below w.heap.size w W ∧ W.heap.size = w.heap.size + 1 + 1 := by
  refine ⟨_, rfl, (Box.new w t1 vs).alloc _, ?_, (below_alloc _ _).alloc (by simp) _, by simp⟩
  have := Box.new (w.alloc (.cells vs t1)) t2 us
  rw [show (w.alloc (.cells vs t1)).heap.size = w.heap.size + 1 from by simp] at this
  exact this
def put5 (w : World) (g : Nat) (x0 x1 x2 x3 x4 : Value) : World := ((((w.setCell ⟨g, 0, none⟩ x0).setCell ⟨g, 1, none⟩ x1).setCell ⟨g, 2, none⟩ x2).setCell ⟨g, 3, none⟩ x3).setCell ⟨g, 4, none⟩ x4
theorem below_put5 {B g : Nat} {a w : World} (h : Below B a w) (hg : B ≤ g) (hB : B ≤ a.heap.size) (x0 x1 x2 x3 x4 : Value) : Below B a (put5 w g x0 x1 x2 x3 x4) :=
  below_set (below_set (below_set (below_set (below_set h hg hB _) hg hB _) hg hB _) hg hB _) hg hB _

set_option maxHeartbeats 1000000 in
theorem bk_result_ok {w : World} {p : Option Addr} (x : SV) : Calls Tryz.prog 52 #[.pointer p, .agg x.agg, .int .i64 0] w (fun r w' => r = .returned (.agg x.agg) ∧ Below w.heap.size w w') := by
  obtain ⟨V, hW, Bx, Br, hb, hs⟩ := boxesV 53 53 w x.agg SV.zero.agg
  simp only [SV.agg, SV.zero] at hW Bx Br
  unfold SV.agg
  obtain ⟨s, A, n, c, D, m, d, u, f⟩ := x
  simp only at hW Bx Br ⊢
  obtain ⟨⟨k0, k1, k2, k3, k4⟩, _⟩ := Bx.five
  obtain ⟨⟨r0, r1, r2, r3, r4⟩, f0, f1, f2, f3, f4⟩ := Br.five
  have HW := Lib.hid hW
  clear hW Bx Br hs
  go_enter Tryz.func52, Tryz.ntmps52
  go_upto_region 4 with (fail)
  rw [HW.out]
  go_wp2_with fail
  refine bodyPost_ret (v := .agg #[.bool s, .slice A n c, .slice D m d, .int .u64 u, .int .i64 f]) (by simp [results, Tryz.results52, go_sem, r0, r1, r2, r3, r4]) rfl ?_
  exact ⟨rfl, below_put5 hb (by omega) (Nat.le_refl _) _ _ _ _ _⟩

end Go.Proofs.YthpbaaanbimapaaGreatDoor

namespace Go.Proofs.YthpbaaanbimapaaGreatDoor
set_option maxRecDepth 100000
open Go.RowKit
set_option linter.unusedVariables false
set_option linter.unusedSimpArgs false

theorem wk_keep {g : Nat} {w w' : World} (k : Keep g w w') (hz : ∀ i u, w.cell? ⟨g, i, none⟩ = some u → NZ u) : WK w w' := by
  refine ⟨k.size, fun b hb => ?_⟩
  by_cases e : b = g
  · subst e
    exact ⟨fun _ => False, fun _ _ _ h => h, fun _ h => h.elim, fun i u _ hu => hz i u hu⟩
  · exact ⟨fun _ => True, fun _ _ _ h => h, fun i _ => World.cell?_of_block (a := ⟨b, i, none⟩) (k.block b hb e), fun _ _ h => absurd trivial h⟩
theorem only_keep {g : Nat} {w w' : World} (k : Keep g w w') : Only [g] w w' := ⟨k.os, k.tape, k.output, k.size, fun b h1 h2 => k.block b h1 (fun e => h2 (by rw [e]; simp))⟩
theorem keep_put5 (w : World) (g : Nat) (x0 x1 x2 x3 x4 : Value) : Keep g w (put5 w g x0 x1 x2 x3 x4) := (((((Keep.refl g w).setCell 0 x0).setCell 1 x1).setCell 2 x2).setCell 3 x3).setCell 4 x4
theorem nz_zero5 {t : TypeId} {w : World} {g : Nat} (h : Box t w g #[.bool false, .slice none 0 0, .slice none 0 0, .int .u64 0, .int .i64 0]) : ∀ i u, w.cell? ⟨g, i, none⟩ = some u → NZ u := by
  intro i u hu
  rw [h.cell] at hu
  match i, hu with
  | 0, hu => injection hu with hu; subst hu; exact (NoW_bool _).nz
  | 1, hu => injection hu with hu; subst hu; exact (NoW_slice _ _ _).nz
  | 2, hu => injection hu with hu; subst hu; exact (NoW_slice _ _ _).nz
  | 3, hu => injection hu with hu; subst hu; exact fun x e => by injection e with _ e; exact e.symm
  | 4, hu => injection hu with hu; subst hu; exact (NoW_i64 _).nz
  | i + 5, hu => simp at hu
/-- a step of a bank behind a box that was made ahead, and a store into that box -/
theorem BkStep.after {w V w1 w2 : World} {F : List Nat} {g gr : Nat} {b : PB} (h : BkStep V F g b w1) (hb : Below w.heap.size w V) (k : Keep gr w1 w2) (h1 : w.heap.size ≤ gr) (h2 : gr < V.heap.size) (hF : ∀ x ∈ F, x < w.heap.size) (hz : ∀ i u, w1.cell? ⟨gr, i, none⟩ = some u → NZ u) : BkStep w F g b w2 := by
  obtain ⟨F', k1, k2, k3, k4⟩ := h
  have wk := wk_keep k hz
  have o2 : Only F w w1 := (Only.of_below F hb).trans k2 (fun x hx => .inl hx)
  refine ⟨F', k1.only (only_keep k) wk (fun x hx e => ?_), o2.trans (only_keep k) (fun x hx => .inr (by rw [List.mem_singleton] at hx; omega)), ((WK.below hb).trans k3).trans wk, fun x hx => ?_⟩
  · rw [List.mem_singleton] at e
    subst e
    rcases k4 x hx with h9 | h9
    · have := hF x h9; omega
    · omega
  · rcases k4 x hx with h9 | h9
    · exact .inl h9
    · right; have := hb.size; omega
theorem Bk.lt {w : World} {F : List Nat} {g : Nat} {b : PB} (h : Bk w F g b) : ∀ x ∈ F, x < w.heap.size := by
  obtain ⟨va, vp, vm, ps, h9⟩ := h
  exact h9.lt

theorem boxesV3 (t1 t2 t3 : TypeId) (w : World) (vs us xs : Array Value) : ∃ W, ((w.alloc (.cells vs t1)).alloc (.cells us t2)).alloc (.cells xs t3) = W ∧ Box t1 W w.heap.size vs ∧ Box t2 W (w.heap.size + 1) us ∧ Box t3 W (w.heap.size + 1 + 1) xs ∧ Below w.heap.size w W ∧ W.heap.size = w.heap.size + 1 + 1 + 1 := by
  obtain ⟨W, h, h1, h2, h3, hs⟩ := boxesV t1 t2 w vs us
  refine ⟨_, rfl, ?_, ?_, ?_, ?_, ?_⟩
  · rw [h]; exact h1.alloc _
  · rw [h]; exact h2.alloc _
  · rw [h, ← hs]; exact Box.new W t3 xs
  · rw [h]; exact h3.alloc h3.size _
  · rw [h]; simp [hs]
end Go.Proofs.YthpbaaanbimapaaGreatDoor

namespace Go.Proofs.YthpbaaanbimapaaGreatDoor
set_option maxRecDepth 100000
open Go.RowKit
set_option linter.unusedVariables false
set_option linter.unusedSimpArgs false

theorem sz_int {z : Int} (h1 : -9223372036854775808 ≤ z) (h2 : z ≤ 9223372036854775807) : Sz (z : Rat) 1 := by
  refine ⟨?_, ?_⟩
  · rw [Rat.num_intCast, Nat.pow_one]; unfold W; omega
  · rw [Rat.den_intCast, Nat.pow_one]; unfold W; omega
theorem int_ne {z : Int} (h : z ≠ 0) : (z : Rat) ≠ 0 := by
  intro e
  exact h (Rat.intCast_inj.1 (e.trans (by rfl)))
set_option maxHeartbeats 1000000 in
theorem bk_quotient {w : World} {p q : Int} (p1 : -9223372036854775808 ≤ p) (p2 : p ≤ 9223372036854775807) (q1 : -9223372036854775808 ≤ q) (q2 : q ≤ 9223372036854775807) (h0 : q ≠ 0) :
    Calls Tryz.prog 49 #[.int .i64 p, .int .i64 q] w (RetQE ((p : Rat) / (q : Rat)) 0 w) := by
  obtain ⟨V, hW, Br, hb⟩ := box0 51 w #[.bool false, .slice none 0 0, .slice none 0 0]
  have P := fun (w1 : World) => Lib.hid (rat_of p p1 p2 w1)
  have R := fun (w1 : World) => Lib.hid (rat_of q q1 q2 w1)
  have D := fun (w1 : World) {s t : Bool} {A A' B B' : Option Addr} {n n' c c' m m' d d' : Nat} (h : Q w1 s A n c A' n' c' (p : Rat)) (k : Q w1 t B m d B' m' d' (q : Rat)) => rat_div h k (sz_int p1 p2) (sz_int q1 q2) (by omega) (int_ne h0)
  generalize (p : Rat) / (q : Rat) = X at *
  have HD := Lib.hid @D
  have HW := Lib.hid hW
  have HBr := Lib.hid Br
  clear D hW Br
  go_enter Tryz.func49, Tryz.ntmps49
  go_upto_region 1 with (fail)
  rw [HW.out]
  go_wp2_with fail
  with_reducible refine (P _).out.mono ?_
  rintro _ w1 ⟨sa, Aa, na, ca, Da, ma, da, rfl, qa, b1⟩
  go_wp2_with fail
  with_reducible refine (R _).out.mono ?_
  rintro _ w2 ⟨sb, Ab, nb, cb, Db, mb, db, rfl, qb, b2⟩
  go_wp2_with fail
  with_reducible refine (HD.out _ (qa.below b2) qb).mono ?_
  rintro _ w3 ⟨s3, A3, n3, c3, D3, m3, d3, rfl, q3, b3⟩
  have B3 := HBr.out.below' (bb b1 (bb b2 b3))
  have HB3 := Lib.hid B3
  obtain ⟨⟨r0, r1, r2⟩, f0, f1, f2⟩ := B3.three
  have x3 := Lib.hid (bb hb (bb b1 (bb b2 b3)))
  clear B3
  go_wp2_with fail
  refine bodyPost_ret (v := .tuple #[.agg #[.bool s3, .slice A3 n3 c3, .slice D3 m3 d3], .int .i64 0]) (by simp [results, Tryz.results49, go_sem, r0, r1, r2]) rfl ?_
  exact ⟨_, _, _, _, _, _, _, rfl, q3.put3 ⟨_, _, _, _, _, _, _, HB3.out⟩, below_put3 x3.out (Nat.le_refl _) (Nat.le_refl _) _ _ _⟩
/-- a new bank without answers -/
theorem bk_at_new (w : World) {m : Int} : BkAt (w.alloc (.cells (bkCells (PB.new m []) (.slice none 0 0) (.slice none 0 0) (.slice none 0 0)) 77)) [w.heap.size] w.heap.size (PB.new m []) (.slice none 0 0) (.slice none 0 0) (.slice none 0 0) [] where
  box := Box.new w _ _
  ra := Rw.nil
  rp := Rw.nil
  rm := Rw.nil
  pi := rfl
  ok := fun p hp => by cases hp
  own := fun x => by simp [ownL_nil]
  d1 := by simp [ownL_nil]
  d2 := by simp [ownL_nil]
  pl := by show 0 ≤ 65536; omega
  ml := by show 0 ≤ 65536; omega
  ul := Nat.le_refl _
set_option maxHeartbeats 1000000 in
theorem bk_new_nil (w : World) {m : Int} (h0 : 0 ≤ m) (h2 : m ≤ 2) : Calls Tryz.prog 8 #[.int .i64 m, .slice none 0 0] w (fun r w' => ∃ g, r = .returned (.pointer (some ⟨g, 0, none⟩)) ∧ Bk w' [g] g (PB.new m []) ∧ w.heap.size ≤ g ∧ Below w.heap.size w w') := by
  have h3 : decide (m < 0) = false := decide_eq_false (by omega)
  have h4 : decide (2 < m) = false := decide_eq_false (by omega)
  have hn := bk_at_new w (m := m)
  have HN := Lib.hid hn
  clear hn
  go_enter Tryz.func8, Tryz.ntmps8
  go_wp2_with fail
  go_ret
  exact ⟨_, rfl, ⟨_, _, _, _, HN.out⟩, Nat.le_refl _, below_alloc _ _⟩
end Go.Proofs.YthpbaaanbimapaaGreatDoor

namespace Go.Proofs.YthpbaaanbimapaaGreatDoor
set_option maxRecDepth 100000
open Go.RowKit
set_option linter.unusedVariables false
set_option linter.unusedSimpArgs false

theorem infoI : (Tryz.prog.info? 80).map (fun i => (i.zero, i.size, i.bytes)) = some (some (.agg #[.int .i64 0, .int .i64 0, .int .i64 0, .bool false, .slice none 0 0, .slice none 0 0]), 6, 80) := by kernel_rfl
theorem zeroI : ∀ u ∈ (Value.agg #[.int .i64 0, .int .i64 0, .int .i64 0, .bool false, .slice none 0 0, .slice none 0 0]).cells.toList, NZ u := by
  intro u hu
  simp only [Value.cells, List.mem_cons, List.not_mem_nil, or_false] at hu
  rcases hu with rfl | rfl | rfl | rfl | rfl | rfl
  · exact (NoW_i64 _).nz
  · exact (NoW_i64 _).nz
  · exact (NoW_i64 _).nz
  · exact (NoW_bool _).nz
  · exact (NoW_slice _ _ _).nz
  · exact (NoW_slice _ _ _).nz
theorem bkCells_nz {b : PB} {va vp vm : Value} {w : World} {F : List Nat} {g : Nat} {ps : List RI} (h : BkAt w F g b va vp vm ps) {t : TypeId} {w6 : World} (hb : Box t w6 g (bkCells b va vp vm)) : ∀ i u, w6.cell? ⟨g, i, none⟩ = some u → NZ u := by
  intro i u hu
  rw [hb.cell] at hu
  exact (bkCells_noW (ownL_noW _ h.ra) (ownL_noW _ h.rp) (ownL_noW _ h.rm) u (by rw [Array.mem_toList_iff]; exact Array.mem_of_getElem? hu)).nz
def PB.wrote1 (b : PB) (x : PI) : PB := { b with prog := b.prog ++ [x] }
theorem BkAt.pushed {w w5 w6 : World} {F : List Nat} {g : Nat} {b : PB} {va vp vm v' : Value} {ps : List RI} {p : RI} (h : BkAt w F g b va vp vm ps) (hb : Below w.heap.size w w5) (hr : Rw 6 RI.cells 80 w6 v' (ps ++ [p])) (ho : Only (ownL vp) w5 w6) (hk : WK w5 w6) (hv : ∀ x ∈ ownL v', x ∈ ownL vp ∨ w5.heap.size ≤ x) (hp : p.tight w6) (hl : b.prog.length < 65536) :
    BkAt ((w6.setCell ⟨g, 2, none⟩ v').setCell ⟨g, 4, none⟩ (.int .i64 ((b.prog.length : Int) + 1))) (g :: ownL va ++ ownL v' ++ ownL vm) g (b.wrote1 p.pi) va v' vm (ps ++ [p]) ∧
    Only F w ((w6.setCell ⟨g, 2, none⟩ v').setCell ⟨g, 4, none⟩ (.int .i64 ((b.prog.length : Int) + 1))) ∧ WK w ((w6.setCell ⟨g, 2, none⟩ v').setCell ⟨g, 4, none⟩ (.int .i64 ((b.prog.length : Int) + 1))) ∧ ∀ x ∈ (g :: ownL va ++ ownL v' ++ ownL vm), x ∈ F ∨ w.heap.size ≤ x := by
  have ho6 : Only (ownL vp) w w6 := (Only.of_below _ hb).trans ho (fun x hx => .inl hx)
  have wk6 : WK w w6 := (WK.below hb).trans hk
  have box6 := ho6.box h.box h.d1.2.1
  have ra6 := h.ra.only ho6 (fun x hx => (h.d2.1 x hx).1)
  have rm6 := h.rm.only ho6 (fun x hx e => h.d2.2 x e hx)
  have hlt := h.lt
  have hgF : g ∈ F := (h.own g).2 (.inl rfl)
  have hg := hlt g hgF
  have hs5 := hb.size
  have hgv : g ∉ ownL v' := fun e => by
    rcases hv g e with h9 | h9
    · exact h.d1.2.1 h9
    · omega
  have k8 : Keep g w6 ((w6.setCell ⟨g, 2, none⟩ v').setCell ⟨g, 4, none⟩ (.int .i64 ((b.prog.length : Int) + 1))) := ((Keep.refl g w6).setCell 2 v').setCell 4 _
  have wk8 := wk_keep k8 (bkCells_nz h box6)
  have o8 := only_keep k8
  have ne : ∀ {L : List Nat}, g ∉ L → ∀ x ∈ L, x ∉ [g] := fun hL x hx hy => by rw [List.mem_singleton] at hy; exact hL (hy ▸ hx)
  have box8 := box_setI (box_setI box6 2 v') 4 (.int .i64 ((b.prog.length : Int) + 1))
  have hcells : ((bkCells b va vp vm).setIfInBounds 2 v').setIfInBounds 4 (.int .i64 ((b.prog.length : Int) + 1)) = bkCells (b.wrote1 p.pi) va v' vm := by
    unfold bkCells PB.wrote1
    simp
  rw [hcells] at box8
  refine ⟨⟨box8, ra6.only o8 (ne h.d1.1), hr.only o8 (ne hgv), rm6.only o8 (ne h.d1.2.2), ?_, ?_, ?_, ⟨h.d1.1, hgv, h.d1.2.2⟩, ⟨fun x hx => ⟨fun e => ?_, (h.d2.1 x hx).2⟩, fun x hx e => ?_⟩, ?_, h.ml, h.ul⟩, ?_, wk6.trans wk8, fun x hx => ?_⟩
  · show _ = b.prog ++ [p.pi]; rw [List.map_append, h.pi]; rfl
  · intro q hq
    rcases List.mem_append.1 hq with hq | hq
    · exact RI.tight_wk (RI.tight_wk (h.ok q hq) wk6) wk8
    · rw [List.mem_singleton.1 hq]; exact RI.tight_wk hp wk8
  · intro x; simp [List.mem_append]
  · rcases hv x e with h9 | h9
    · exact (h.d2.1 x hx).1 h9
    · have := hlt x ((h.own x).2 (.inr (.inl hx))); omega
  · rcases hv x hx with h9 | h9
    · exact h.d2.2 x h9 e
    · have := hlt x ((h.own x).2 (.inr (.inr (.inr e)))); omega
  · show (b.prog ++ [p.pi]).length ≤ 65536; rw [List.length_append]; exact hl
  · refine (ho6.mono (G := F) (fun x hx => .inl ((h.own x).2 (.inr (.inr (.inl hx)))))).trans o8 (fun x hx => .inl ?_)
    rw [List.mem_singleton] at hx; rw [hx]; exact hgF
  · simp only [List.cons_append, List.mem_cons, List.mem_append] at hx
    rcases hx with rfl | (hx | hx) | hx
    · exact .inl hgF
    · exact .inl ((h.own x).2 (.inr (.inl hx)))
    · rcases hv x hx with h9 | h9
      · exact .inl ((h.own x).2 (.inr (.inr (.inl h9))))
      · right; omega
    · exact .inl ((h.own x).2 (.inr (.inr (.inr hx))))

end Go.Proofs.YthpbaaanbimapaaGreatDoor

namespace Go.Proofs.YthpbaaanbimapaaGreatDoor
set_option maxRecDepth 100000
set_option linter.unusedVariables false
set_option linter.unusedSimpArgs false

/-! ### the text of a number -/
/-! ### digits of a given number of places -/
/-! ### reading -/
def rd (l : List UInt8) : Nat := l.foldl (fun v c => v * 10 + (c.toNat - 48)) 0
/-! ### lengths and order -/
/-! ### groups of nineteen digits -/
def B : Nat := 10000000000000000000
/-! ### by ten, half word by half word -/
end Go.Proofs.YthpbaaanbimapaaGreatDoor

namespace Go.Proofs.YthpbaaanbimapaaGreatDoor
set_option maxRecDepth 100000
open Go.RowKit
set_option linter.unusedVariables false
set_option linter.unusedSimpArgs false

end Go.Proofs.YthpbaaanbimapaaGreatDoor

namespace Go.Proofs.YthpbaaanbimapaaGreatDoor
set_option maxRecDepth 100000
open Go.RowKit
set_option linter.unusedVariables false
set_option linter.unusedSimpArgs false

theorem Own.below {t : TypeId} {base : Nat} {w w' : World} {v : Value} {zs : List Int} (h : Own t base w v zs) (hb : Below w.heap.size w w') : Own t base w' v zs := by
  obtain ⟨h1, h2⟩ := h
  refine ⟨h1, ?_⟩
  rcases h2 with h2 | ⟨g, cap, cur, hv, hg, hh, r⟩
  · exact .inl h2
  · have hlt : g < w.heap.size := by
      rcases Nat.lt_or_ge g w.heap.size with h9 | h9
      · exact h9
      · rw [Array.getElem?_eq_none h9] at hh; cases hh
    exact .inr ⟨g, cap, cur, hv, hg, (hb.block g hlt).trans hh, r⟩
theorem Own.lit {w w1 : World} {t : TypeId} (hs : w.heap.size ≤ w1.heap.size) (x : Int) : Own t w.heap.size (w1.alloc (.cells #[.int .u64 x] t)) (.slice (some ⟨w1.heap.size, 0, none⟩) 1 1) [x] :=
  ⟨rfl, .inr ⟨w1.heap.size, 1, _, rfl, hs, heap_alloc_new w1 _, Nat.le_refl _, by unfold maxLen; omega, rfl, rfl⟩⟩
/-- a slice apart from the row that grows -/
theorem Sl.grown {w w1 : World} {o : Obj} {r : Option Nat} {A : Option Addr} {n c : Nat} {xs : List Int} (s : Sl w A n c xs) (hg : (w.alloc o).grownBy w1 r) (hne : ∀ b off, A = some ⟨b, off, none⟩ → some b ≠ r) : Sl w1 A n c xs := by
  refine ⟨s.1, fun h0 => ?_⟩
  obtain ⟨b, off, e, hlt, hc⟩ := s.2 h0
  have hsz := hg.size
  refine ⟨b, off, e, by simp at hsz; omega, fun j hj => ?_⟩
  have hbl := hg.block b (by simp; omega) (hne b off e)
  have e1 : w1.cell? ⟨b, off + j, none⟩ = (w.alloc o).cell? ⟨b, off + j, none⟩ := World.cell?_of_block (a := ⟨b, off + j, none⟩) hbl
  rw [e1, World.cell?_alloc_past _ _ _ hlt]
  exact hc j hj

end Go.Proofs.YthpbaaanbimapaaGreatDoor

namespace Go.Proofs.YthpbaaanbimapaaGreatDoor
set_option maxRecDepth 100000
open Go.RowKit
set_option linter.unusedVariables false
set_option linter.unusedSimpArgs false

/-- block g begins with the integers zs, none frozen -/
def Cl (k : IntKind) (w : World) (g : Nat) (zs : List Int) : Prop := ∀ j, j < zs.length → w.cell? ⟨g, j, none⟩ = some (.int k (zs.getD j 0)) ∧ w.frozen? ⟨g, j, none⟩ = false
theorem Cl.set {k : IntKind} {w : World} {g : Nat} {zs : List Int} (h : Cl k w g zs) (i : Nat) (hi : i < zs.length) (u : Int) : Cl k (w.setCell ⟨g, i, none⟩ (.int k u)) g (zs.set i u) := by
  intro j hj
  rw [List.length_set] at hj
  refine ⟨?_, by rw [World.frozen?_setCell]; exact (h j hj).2⟩
  by_cases e : i = j
  · subst e
    rw [World.cell?_setCell_same _ _ _ (h i hi).1, getD_set_self _ hi]
  · rw [World.cell?_setCell_other _ _ _ _ (by intro e2; injection e2 with _ e3; exact e e3), getD_set_ne _ e]
    exact (h j hj).1
theorem Cl.below {k : IntKind} {w w' : World} {g : Nat} {zs : List Int} (h : Cl k w g zs) (hb : Below w.heap.size w w') (hg : g < w.heap.size) : Cl k w' g zs := by
  intro j hj
  exact ⟨(hb.cell (p := ⟨g, j, none⟩) hg).trans (h j hj).1, (hb.frozen (p := ⟨g, j, none⟩) hg).trans (h j hj).2⟩
end Go.Proofs.YthpbaaanbimapaaGreatDoor

namespace Go.Proofs.YthpbaaanbimapaaGreatDoor
set_option maxRecDepth 100000
open Go.RowKit
set_option linter.unusedVariables false
set_option linter.unusedSimpArgs false

/-- the digits so far -/
def DigTo (s : ByteArray) (k : Nat) : Prop := ∀ j (hj : j < s.size), j < k → 48 ≤ s[j].toNat ∧ s[j].toNat ≤ 57
theorem DigTo.step {s : ByteArray} {k : Nat} (h : DigTo s k) (hk : k < s.size) (h1 : ¬ s[k].toNat < 48) (h2 : ¬ 57 < s[k].toNat) : DigTo s (k + 1) := fun j hj hjk => by
  by_cases e : j = k
  · subst e; omega
  · exact h j hj (by omega)


end Go.Proofs.YthpbaaanbimapaaGreatDoor

namespace Go.Proofs.YthpbaaanbimapaaGreatDoor
set_option maxRecDepth 100000
open Go.RowKit
set_option linter.unusedVariables false
set_option linter.unusedSimpArgs false

/-- whether a text is a number's -/
def numB (l : List UInt8) : Bool := !l.isEmpty && (!(l.head? == some 48) || l == [48]) && l.all fun c => decide (48 ≤ c.toNat ∧ c.toNat ≤ 57)
/-- the number that is read, and the error's number -/
def rdv (l : List UInt8) : Nat := if decide (l.length ≤ 400) && numB l then rd l else 0
def rde (l : List UInt8) : Int := if 400 < l.length then 3 else if numB l then 0 else 2
/-- a call that returns the number of a text, or why it is none -/
def RetRd (l : List UInt8) (w : World) (e : Ending) (w' : World) : Prop := ∃ A n c, e = .returned (.tuple #[.slice A n c, .int .i64 (rde l)]) ∧ Sl w' A n c (words (rdv l)) ∧ Below w.heap.size w w'
theorem RetRd.of {l : List UInt8} {w w' : World} {A : Option Addr} {n c v : Nat} {x : Int} (h : rdv l = v ∧ rde l = x) (s : Sl w' A n c (words v)) (b : Below w.heap.size w w') : RetRd l w (.returned (.tuple #[.slice A n c, .int .i64 x])) w' := by
  obtain ⟨rfl, rfl⟩ := h
  exact ⟨A, n, c, rfl, s, b⟩
end Go.Proofs.YthpbaaanbimapaaGreatDoor

namespace Go.Proofs.YthpbaaanbimapaaGreatDoor
set_option maxRecDepth 100000
set_option linter.unusedVariables false
set_option linter.unusedSimpArgs false

/-- what precedes the first / and what follows it -/
def above (l : List UInt8) : List UInt8 := l.takeWhile (· != 47)
def behind (l : List UInt8) : List UInt8 := if l.contains 47 then (l.dropWhile (· != 47)).drop 1 else [49]
end Go.Proofs.YthpbaaanbimapaaGreatDoor

namespace Go.Proofs.YthpbaaanbimapaaGreatDoor
set_option maxRecDepth 100000
open Go.RowKit
set_option linter.unusedVariables false
set_option linter.unusedSimpArgs false

end Go.Proofs.YthpbaaanbimapaaGreatDoor

namespace Go.Proofs.YthpbaaanbimapaaGreatDoor
set_option maxRecDepth 100000
open Go.RowKit
set_option linter.unusedVariables false
set_option linter.unusedSimpArgs false

end Go.Proofs.YthpbaaanbimapaaGreatDoor

namespace Go.Proofs.YthpbaaanbimapaaGreatDoor
set_option maxRecDepth 100000
open Go.RowKit
set_option linter.unusedVariables false
set_option linter.unusedSimpArgs false

theorem SlQ.tail {w : World} {b off l f : Nat} {Xs : List Rat} (h : SlQ w (some ⟨b, off, none⟩) l f Xs) (h0 : 0 < l) : SlQ w (some ⟨b, off + 3, none⟩) (l - 1) (f - 1) (Xs.drop 1) := by
  obtain ⟨xs, h1, h2, h3⟩ := h
  have hl := h1.1.1
  obtain ⟨b', off', e, hlt, hc⟩ := h1.2 h0
  injection e with e
  injection e with e1 e2
  subst e1 e2
  refine ⟨xs.drop 1, ⟨⟨by rw [List.length_drop, hl], by have := h1.1.2.1; omega, by have := h1.1.2.2.1; omega, fun x hx => h1.1.2.2.2 x (List.mem_of_mem_drop hx)⟩, fun h9 => ⟨b, off + 3, rfl, hlt, fun j hj i hi => ?_⟩⟩, by rw [List.length_drop, List.length_drop, h2], fun j x hx => ?_⟩
  · have := hc (j + 1) (by omega) i hi
    rw [List.getElem?_drop, Nat.add_comm 1 j, ← this]
    congr 2
    omega
  · rw [List.getElem?_drop] at hx
    have := h3 _ x hx
    rw [List.getD_eq_getElem?_getD, List.getElem?_drop, ← List.getD_eq_getElem?_getD]
    exact this

end Go.Proofs.YthpbaaanbimapaaGreatDoor

namespace Go.Proofs.YthpbaaanbimapaaGreatDoor
set_option maxRecDepth 100000
open Go.RowKit
set_option linter.unusedVariables false
set_option linter.unusedSimpArgs false

theorem Box.setOther {t : TypeId} {w : World} {g g' : Nat} {vs : Array Value} (h : Box t w g vs) (hne : g ≠ g') (i : Nat) (x : Value) : Box t (w.setCell ⟨g', i, none⟩ x) g vs := (((Keep.refl g' w).setCell i x).block g h.lt hne).trans h
set_option maxRecDepth 100000 in
set_option maxHeartbeats 4000000 in
theorem bk_write {w : World} {F : List Nat} {g : Nat} {b : PB} {op a c : Int} {q : RQ} (h : Bk w F g b) (hp : RI.tight w ⟨op, a, c, q⟩) (hl : b.prog.length < 65536) :
    Calls Tryz.prog 51 #[.pointer (some ⟨g, 0, none⟩), .agg #[.int .i64 op, .int .i64 a, .int .i64 c, .bool q.s, .slice q.A q.n q.c, .slice q.A' q.n' q.c']] w (fun r w' => r = .returned (.tuple #[.int .i64 b.prog.length, .int .i64 0]) ∧ BkStep w F g (b.wrote1 ⟨op, a, c, (q.s, q.z, q.z')⟩) w') := by
  obtain ⟨va, vp, vm, ps, h⟩ := h
  obtain ⟨V, hW, Bx, hb⟩ := box0 80 w #[.int .i64 op, .int .i64 a, .int .i64 c, .bool q.s, .slice q.A q.n q.c, .slice q.A' q.n' q.c']
  have hV := h.below hb
  obtain ⟨j0, j1, j2, j3, j4, j5, j6, j7, j8, j9, j10⟩ := hV.cells
  obtain ⟨A_p, c_p, rfl, hc1, hc2⟩ := h.rp.form
  have hpl : ps.length = b.prog.length := by rw [← h.pi, List.length_map]
  have hg : g < w.heap.size := h.box.lt
  have hS : ∀ w', Box 80 w' w.heap.size #[.int .i64 op, .int .i64 a, .int .i64 c, .bool q.s, .slice q.A q.n q.c, .slice q.A' q.n' q.c'] → w'.cell? ⟨w.heap.size, 0, none⟩ = some (.int .i64 op) ∧ w'.cell? ⟨w.heap.size, 1, none⟩ = some (.int .i64 a) ∧ w'.cell? ⟨w.heap.size, 2, none⟩ = some (.int .i64 c) ∧ w'.cell? ⟨w.heap.size, 3, none⟩ = some (.bool q.s) ∧ w'.cell? ⟨w.heap.size, 4, none⟩ = some (.slice q.A q.n q.c) ∧ w'.cell? ⟨w.heap.size, 5, none⟩ = some (.slice q.A' q.n' q.c') := fun w' hB => hB.six.1
  obtain ⟨i0, hi0, hz0, hz1, hz2⟩ := info_parts infoI
  obtain ⟨k0, k1, k2, k3, k4, k5⟩ := Bx.six.1
  have hl2 : decide ((65536 : Int) ≤ (b.prog.length : Int)) = false := decide_eq_false (by omega)
  rw [hpl] at j2
  obtain ⟨L, hL⟩ : ∃ L : Nat, L = b.prog.length := ⟨_, rfl⟩
  rw [← hL] at hl hl2 j4 j2 ⊢
  have HLL := Lib.hid hL
  have HW := Lib.hid hW
  have HS := Lib.hid hS
  have HBx := Lib.hid Bx
  have HH := Lib.hid h
  have HP := Lib.hid hp
  have HPL := Lib.hid hpl
  clear hW hS Bx h hp hpl hV hL
  go_enter Tryz.func51, Tryz.ntmps51
  go_upto_region 1 with (fail)
  rw [HW.out]
  go_upto_region 3 with (fail)
  have j2d := j2
  refine wp_region_held_drew (S := fun w' => w'.cell? ⟨w.heap.size, 0, none⟩ = some (.int .i64 op) ∧ w'.cell? ⟨w.heap.size, 1, none⟩ = some (.int .i64 a) ∧ w'.cell? ⟨w.heap.size, 2, none⟩ = some (.int .i64 c) ∧ w'.cell? ⟨w.heap.size, 3, none⟩ = some (.bool q.s) ∧ w'.cell? ⟨w.heap.size, 4, none⟩ = some (.slice q.A q.n q.c) ∧ w'.cell? ⟨w.heap.size, 5, none⟩ = some (.slice q.A' q.n' q.c')) (by kernel_rfl) (HS.out _ HBx.out) (fun hHeld => ?_)
  refine wpAnyH_take (i := 0) (v := ?_) rfl (by kernel_rfl) (by kernel_rfl) (by kernel_rfl) (fun _ _ _ h => h) (Or.inl ⟨by kernel_rfl, ?_⟩) (by assumption) ?_
  rotate_left
  · intro w hSw
    (try dsimp only at hSw)
    go_simp
    (try with_reducible rfl)
  try simp only [Act.put, List.setIfInBounds_toArray, List.set_cons_zero, List.set_cons_succ, List.getElem_toArray, List.getElem_cons_zero, List.getElem_cons_succ]
  refine wpAnyH_take (i := 1) (v := ?_) rfl (by kernel_rfl) (by kernel_rfl) (by kernel_rfl) (fun _ _ _ h => h) (Or.inl ⟨by kernel_rfl, ?_⟩) (by assumption) ?_
  rotate_left
  · intro w hSw
    (try dsimp only at hSw)
    go_simp
    (try with_reducible rfl)
  try simp only [Act.put, List.setIfInBounds_toArray, List.set_cons_zero, List.set_cons_succ, List.getElem_toArray, List.getElem_cons_zero, List.getElem_cons_succ]
  refine wpAnyH_take (i := 2) (v := ?_) rfl (by kernel_rfl) (by kernel_rfl) (by kernel_rfl) (fun _ _ _ h => h) (Or.inl ⟨by kernel_rfl, ?_⟩) (by assumption) ?_
  rotate_left
  · intro w hSw
    (try dsimp only at hSw)
    go_simp
    (try with_reducible rfl)
  try simp only [Act.put, List.setIfInBounds_toArray, List.set_cons_zero, List.set_cons_succ, List.getElem_toArray, List.getElem_cons_zero, List.getElem_cons_succ]
  refine wpAnyH_take (i := 3) (v := ?_) rfl (by kernel_rfl) (by kernel_rfl) (by kernel_rfl) (fun _ _ _ h => h) (Or.inl ⟨by kernel_rfl, ?_⟩) (by assumption) ?_
  rotate_left
  · intro w hSw
    (try dsimp only at hSw)
    go_simp
    (try with_reducible rfl)
  try simp only [Act.put, List.setIfInBounds_toArray, List.set_cons_zero, List.set_cons_succ, List.getElem_toArray, List.getElem_cons_zero, List.getElem_cons_succ]
  refine wpAnyH_take (i := 5) (v := ?_) rfl (by kernel_rfl) (by kernel_rfl) (by kernel_rfl) (fun _ _ _ h => h) (Or.inl ⟨by kernel_rfl, ?_⟩) (by assumption) ?_
  rotate_left
  · intro w hSw
    (try dsimp only at hSw)
    go_simp
    (try with_reducible rfl)
  try simp only [Act.put, List.setIfInBounds_toArray, List.set_cons_zero, List.set_cons_succ, List.getElem_toArray, List.getElem_cons_zero, List.getElem_cons_succ]
  refine wpAnyH_ready (rs := [4, 6]) (by kernel_rfl) (by simp) ?_
  refine AllReadyH.cons rfl (fun K hK => ?_) (AllReadyH.cons rfl (fun K hK => ?_) AllReadyH.nil)
  · skip
    go_simp
    (try go_wp2_with fail)
    refine hK.out _ _ (HS.out _ HBx.out) (fun hHeld => ?_)
    clear hK K
    try simp only [Act.put, List.setIfInBounds_toArray, List.set_cons_zero, List.set_cons_succ, List.getElem_toArray, List.getElem_cons_zero, List.getElem_cons_succ]
    refine wpAnyH_ready (rs := [6]) (by kernel_rfl) (by simp) ?_
    refine AllReadyH.cons rfl (fun K hK => ?_) AllReadyH.nil
    go_simp
    obtain ⟨W1, hW1, B1, b1⟩ := box0 80 V.drew #[.int .i64 op, .int .i64 a, .int .i64 c, .bool q.s, .slice q.A q.n q.c, .slice q.A' q.n' q.c']
    have N1 := news_new V.drew #[.int .i64 op, .int .i64 a, .int .i64 c, .bool q.s, .slice q.A q.n q.c, .slice q.A' q.n' q.c'] 80
    rw [hW1] at N1
    replace hW1 : (V.alloc (.cells #[.int .i64 op, .int .i64 a, .int .i64 c, .bool q.s, .slice q.A q.n q.c, .slice q.A' q.n' q.c'] 80)).drew = W1 := hW1
    rw [hW1]
    clear hW1
    have y1 : Below V.heap.size V W1 := bb (Below.refl _ V).drew b1
    have J2 : W1.cell? ⟨g, 2, none⟩ = some (.slice A_p L c_p) := by have h9 := (HH.out.below (bb hb y1)).cells.2.2.1; rw [HPL.out, ← HLL.out] at h9; exact h9
    have HRW : Hid (Rw 6 RI.cells 80 W1 (.slice A_p L c_p) ps) := Lib.hid (by have h9 := HH.out.rp.below (bb hb y1); rw [HPL.out, ← HLL.out] at h9; exact h9)
    have HN1 := Lib.hid N1
    have HY1 := Lib.hid y1
    clear N1 b1 B1
    (try go_wp2_with fail)
    refine hK.out _ _ (HS.out _ (HBx.out.below' HY1.out)) (fun hHeld => ?_)
    clear hK K
    try simp only [Act.put, List.setIfInBounds_toArray, List.set_cons_zero, List.set_cons_succ, List.getElem_toArray, List.getElem_cons_zero, List.getElem_cons_succ]
    refine wpAnyH_ready (rs := [7]) (by kernel_rfl) (by simp) ?_
    refine AllReadyH.cons rfl (fun K hK => ?_) AllReadyH.nil
    rw [if_pos (by rfl)]
    refine wp_append_R _ _ _ 46 rfl 80 i0 _ 80 Tryz.underlying46 hi0 hz0 hz1 hz2 rfl (by decide) zeroI (.slice A_p L c_p) ps rfl HRW.out ⟨V.heap.size, 0, none⟩ 1 (⟨op, a, c, q⟩ : RI) rfl rfl ?c1 (ri_one _) ?c3 ?c4 ?_
    case c1 => exact HN1.out
    case c3 => have := HPL.out; have := HLL.out; unfold maxLen; omega
    case c4 => have := HPL.out; have := HLL.out; omega
    intro v' w6 hr ho hk hv
    rw [HLL.out, ← HPL.out] at ho hv
    have z1 := bb hb HY1.out
    have PU := HH.out.pushed z1 hr ho (by exact hk) hv (RI.tight_wk (RI.tight_wk HP.out (WK.below z1)) hk) (by rw [← HLL.out]; exact hl)
    have hgl : w.heap.size ∉ ownL (.slice A_p ps.length c_p) := fun e => by have := HH.out.rp.lt _ e; omega
    have o6 : Only (ownL (.slice A_p ps.length c_p)) w w6 := (Only.of_below _ z1).trans ho (fun x hx => .inl hx)
    have BG6 := o6.box HH.out.box HH.out.d1.2.1
    have BX6 : Box 80 w6 w.heap.size #[.int .i64 op, .int .i64 a, .int .i64 c, .bool q.s, .slice q.A q.n q.c, .slice q.A' q.n' q.c'] := (show Only (ownL (.slice A_p ps.length c_p)) V w6 from (Only.of_below _ HY1.out).trans ho (fun x hx => .inl hx)).box HBx.out hgl
    obtain ⟨A_n, c_n, ev, _, _⟩ := hr.form
    rw [List.length_append, HPL.out, ← HLL.out] at ev
    subst ev
    rw [← HLL.out] at PU
    have f2 := BG6.free 2
    have i2 := BG6.cell 2
    replace i2 : w6.cell? ⟨g, 2, none⟩ = some (.slice A_p L c_p) := by rw [HLL.out, ← HPL.out]; exact i2
    have f4 := BG6.free 4
    have i4 : w6.cell? ⟨g, 4, none⟩ = some (.int .i64 L) := by have h9 := BG6.cell 4; rw [HLL.out]; exact h9
    have HPU := Lib.hid PU
    have HBX6 := Lib.hid BX6
    have hne : w.heap.size ≠ g := by omega
    clear PU hr ho hk hv hgl o6 BG6 BX6 z1
    (try go_wp2_with fail)
    refine hK.out _ _ (HS.out _ HBX6.out) (fun hHeld => ?_)
    clear hK K
    try simp only [Act.put, List.setIfInBounds_toArray, List.set_cons_zero, List.set_cons_succ, List.getElem_toArray, List.getElem_cons_zero, List.getElem_cons_succ]
    refine wpAnyH_take (i := 8) (v := ?_) rfl (by kernel_rfl) (by kernel_rfl) (by kernel_rfl) (fun _ _ _ h => h) (Or.inl ⟨by kernel_rfl, ?_⟩) (by assumption) ?_
    rotate_left
    · intro w hSw
      (try dsimp only at hSw)
      go_simp
      (try with_reducible rfl)
    try simp only [Act.put, List.setIfInBounds_toArray, List.set_cons_zero, List.set_cons_succ, List.getElem_toArray, List.getElem_cons_zero, List.getElem_cons_succ]
    refine wpAnyH_take (i := 9) (v := ?_) rfl (by kernel_rfl) (by kernel_rfl) (by kernel_rfl) (fun _ _ _ h => h) (Or.inl ⟨by kernel_rfl, ?_⟩) (by assumption) ?_
    rotate_left
    · intro w hSw
      (try dsimp only at hSw)
      go_simp
      (try with_reducible rfl)
    try simp only [Act.put, List.setIfInBounds_toArray, List.set_cons_zero, List.set_cons_succ, List.getElem_toArray, List.getElem_cons_zero, List.getElem_cons_succ]
    refine wpAnyH_ready (rs := [10]) (by kernel_rfl) (by simp) ?_
    refine AllReadyH.cons rfl (fun K hK => ?_) AllReadyH.nil
    go_simp
    (try go_wp2_with fail)
    refine hK.out _ _ (HS.out _ (Box.setOther HBX6.out hne 2 _)) (fun hHeld => ?_)
    clear hK K
    try simp only [Act.put, List.setIfInBounds_toArray, List.set_cons_zero, List.set_cons_succ, List.getElem_toArray, List.getElem_cons_zero, List.getElem_cons_succ]
    refine wpAnyH_done (by kernel_rfl) ?_ _
    go_wp2_with fail
    go_ret2
    obtain ⟨h1, h2, h3, h4⟩ := HPU.out
    exact ⟨rfl, _, ⟨_, _, _, _, h1⟩, h2, h3, h4⟩
  · skip
    go_simp
    obtain ⟨W1, hW1, B1, b1⟩ := box0 80 V.drew #[.int .i64 op, .int .i64 a, .int .i64 c, .bool q.s, .slice q.A q.n q.c, .slice q.A' q.n' q.c']
    have N1 := news_new V.drew #[.int .i64 op, .int .i64 a, .int .i64 c, .bool q.s, .slice q.A q.n q.c, .slice q.A' q.n' q.c'] 80
    rw [hW1] at N1
    replace hW1 : (V.alloc (.cells #[.int .i64 op, .int .i64 a, .int .i64 c, .bool q.s, .slice q.A q.n q.c, .slice q.A' q.n' q.c'] 80)).drew = W1 := hW1
    rw [hW1]
    clear hW1
    have y1 : Below V.heap.size V W1 := bb (Below.refl _ V).drew b1
    have J2 : W1.cell? ⟨g, 2, none⟩ = some (.slice A_p L c_p) := by have h9 := (HH.out.below (bb hb y1)).cells.2.2.1; rw [HPL.out, ← HLL.out] at h9; exact h9
    have HRW : Hid (Rw 6 RI.cells 80 W1 (.slice A_p L c_p) ps) := Lib.hid (by have h9 := HH.out.rp.below (bb hb y1); rw [HPL.out, ← HLL.out] at h9; exact h9)
    have HN1 := Lib.hid N1
    have HY1 := Lib.hid y1
    clear N1 b1 B1
    (try go_wp2_with fail)
    refine hK.out _ _ (HS.out _ (HBx.out.below' HY1.out)) (fun hHeld => ?_)
    clear hK K
    try simp only [Act.put, List.setIfInBounds_toArray, List.set_cons_zero, List.set_cons_succ, List.getElem_toArray, List.getElem_cons_zero, List.getElem_cons_succ]
    refine wpAnyH_ready (rs := [4]) (by kernel_rfl) (by simp) ?_
    refine AllReadyH.cons rfl (fun K hK => ?_) AllReadyH.nil
    go_simp
    (try go_wp2_with fail)
    refine hK.out _ _ (HS.out _ (HBx.out.below' HY1.out)) (fun hHeld => ?_)
    clear hK K
    try simp only [Act.put, List.setIfInBounds_toArray, List.set_cons_zero, List.set_cons_succ, List.getElem_toArray, List.getElem_cons_zero, List.getElem_cons_succ]
    refine wpAnyH_ready (rs := [7]) (by kernel_rfl) (by simp) ?_
    refine AllReadyH.cons rfl (fun K hK => ?_) AllReadyH.nil
    rw [if_pos (by rfl)]
    refine wp_append_R _ _ _ 46 rfl 80 i0 _ 80 Tryz.underlying46 hi0 hz0 hz1 hz2 rfl (by decide) zeroI (.slice A_p L c_p) ps rfl HRW.out ⟨V.heap.size, 0, none⟩ 1 (⟨op, a, c, q⟩ : RI) rfl rfl ?c1 (ri_one _) ?c3 ?c4 ?_
    case c1 => exact HN1.out
    case c3 => have := HPL.out; have := HLL.out; unfold maxLen; omega
    case c4 => have := HPL.out; have := HLL.out; omega
    intro v' w6 hr ho hk hv
    rw [HLL.out, ← HPL.out] at ho hv
    have z1 := bb hb HY1.out
    have PU := HH.out.pushed z1 hr ho (by exact hk) hv (RI.tight_wk (RI.tight_wk HP.out (WK.below z1)) hk) (by rw [← HLL.out]; exact hl)
    have hgl : w.heap.size ∉ ownL (.slice A_p ps.length c_p) := fun e => by have := HH.out.rp.lt _ e; omega
    have o6 : Only (ownL (.slice A_p ps.length c_p)) w w6 := (Only.of_below _ z1).trans ho (fun x hx => .inl hx)
    have BG6 := o6.box HH.out.box HH.out.d1.2.1
    have BX6 : Box 80 w6 w.heap.size #[.int .i64 op, .int .i64 a, .int .i64 c, .bool q.s, .slice q.A q.n q.c, .slice q.A' q.n' q.c'] := (show Only (ownL (.slice A_p ps.length c_p)) V w6 from (Only.of_below _ HY1.out).trans ho (fun x hx => .inl hx)).box HBx.out hgl
    obtain ⟨A_n, c_n, ev, _, _⟩ := hr.form
    rw [List.length_append, HPL.out, ← HLL.out] at ev
    subst ev
    rw [← HLL.out] at PU
    have f2 := BG6.free 2
    have i2 := BG6.cell 2
    replace i2 : w6.cell? ⟨g, 2, none⟩ = some (.slice A_p L c_p) := by rw [HLL.out, ← HPL.out]; exact i2
    have f4 := BG6.free 4
    have i4 : w6.cell? ⟨g, 4, none⟩ = some (.int .i64 L) := by have h9 := BG6.cell 4; rw [HLL.out]; exact h9
    have HPU := Lib.hid PU
    have HBX6 := Lib.hid BX6
    have hne : w.heap.size ≠ g := by omega
    clear PU hr ho hk hv hgl o6 BG6 BX6 z1
    (try go_wp2_with fail)
    refine hK.out _ _ (HS.out _ HBX6.out) (fun hHeld => ?_)
    clear hK K
    try simp only [Act.put, List.setIfInBounds_toArray, List.set_cons_zero, List.set_cons_succ, List.getElem_toArray, List.getElem_cons_zero, List.getElem_cons_succ]
    refine wpAnyH_take (i := 8) (v := ?_) rfl (by kernel_rfl) (by kernel_rfl) (by kernel_rfl) (fun _ _ _ h => h) (Or.inl ⟨by kernel_rfl, ?_⟩) (by assumption) ?_
    rotate_left
    · intro w hSw
      (try dsimp only at hSw)
      go_simp
      (try with_reducible rfl)
    try simp only [Act.put, List.setIfInBounds_toArray, List.set_cons_zero, List.set_cons_succ, List.getElem_toArray, List.getElem_cons_zero, List.getElem_cons_succ]
    refine wpAnyH_take (i := 9) (v := ?_) rfl (by kernel_rfl) (by kernel_rfl) (by kernel_rfl) (fun _ _ _ h => h) (Or.inl ⟨by kernel_rfl, ?_⟩) (by assumption) ?_
    rotate_left
    · intro w hSw
      (try dsimp only at hSw)
      go_simp
      (try with_reducible rfl)
    try simp only [Act.put, List.setIfInBounds_toArray, List.set_cons_zero, List.set_cons_succ, List.getElem_toArray, List.getElem_cons_zero, List.getElem_cons_succ]
    refine wpAnyH_ready (rs := [10]) (by kernel_rfl) (by simp) ?_
    refine AllReadyH.cons rfl (fun K hK => ?_) AllReadyH.nil
    go_simp
    (try go_wp2_with fail)
    refine hK.out _ _ (HS.out _ (Box.setOther HBX6.out hne 2 _)) (fun hHeld => ?_)
    clear hK K
    try simp only [Act.put, List.setIfInBounds_toArray, List.set_cons_zero, List.set_cons_succ, List.getElem_toArray, List.getElem_cons_zero, List.getElem_cons_succ]
    refine wpAnyH_done (by kernel_rfl) ?_ _
    go_wp2_with fail
    go_ret2
    obtain ⟨h1, h2, h3, h4⟩ := HPU.out
    exact ⟨rfl, _, ⟨_, _, _, _, h1⟩, h2, h3, h4⟩

end Go.Proofs.YthpbaaanbimapaaGreatDoor

namespace Go.Proofs.YthpbaaanbimapaaGreatDoor
set_option maxRecDepth 100000
open Go.RowKit
set_option linter.unusedVariables false
set_option linter.unusedSimpArgs false

theorem BkStep.box {V w1 : World} {F : List Nat} {g gr : Nat} {b : PB} {t : TypeId} {vs : Array Value} (h : BkStep V F g b w1) (hB : Box t V gr vs) (hn : gr ∉ F) : Box t w1 gr vs := by
  obtain ⟨F', h1, h2, h3, h4⟩ := h
  exact h2.box hB hn
/-- a cell of the bank that holds no row is stored into -/
theorem BkStep.set {w w1 : World} {F : List Nat} {g i : Nat} {b b' : PB} (h : BkStep w F g b w1) (v : Value) (hc : ∀ va vp vm, (bkCells b va vp vm).setIfInBounds i v = bkCells b' va vp vm) (hp : b'.prog = b.prog) (hm : b'.met = b.met) (ha : b'.asks = b.asks) (hu : b'.used = b.used) : BkStep w F g b' (w1.setCell ⟨g, i, none⟩ v) := by
  obtain ⟨F', ⟨va, vp, vm, ps, h1⟩, h2, h3, h4⟩ := h
  obtain ⟨k1, k2, k3⟩ := h1.set v (hc va vp vm) hp hm ha (by rw [hu]; exact h1.ul)
  refine ⟨F', ⟨va, vp, vm, ps, k1⟩, h2.trans k2 (fun x hx => ?_), h3.trans k3, h4⟩
  exact h4 x hx
/-- a step of a bank since w; the blocks that it took lie at n or above -/
def BkS (w : World) (n : Nat) (F : List Nat) (g : Nat) (b : PB) (w' : World) : Prop := ∃ F', Bk w' F' g b ∧ Only F w w' ∧ WK w w' ∧ ∀ x ∈ F', x ∈ F ∨ n ≤ x
section
variable {w V w1 w2 : World} {n : Nat} {F : List Nat} {g gr i : Nat} {b b' : PB}
theorem BkStep.s (h : BkStep V F g b w1) (hb : Below w.heap.size w V) : BkS w V.heap.size F g b w1 := by
  obtain ⟨F', k1, k2, k3, k4⟩ := h
  exact ⟨F', k1, (Only.of_below F hb).trans k2 (fun x hx => .inl hx), (WK.below hb).trans k3, k4⟩
theorem BkS.keep (h : BkS w n F g b w1) (k : Keep gr w1 w2) (h1 : w.heap.size ≤ gr) (h2 : gr < n) (hF : gr ∉ F) (hz : ∀ i u, w1.cell? ⟨gr, i, none⟩ = some u → NZ u) : BkS w n F g b w2 := by
  obtain ⟨F', k1, k2, k3, k4⟩ := h
  have wk := wk_keep k hz
  refine ⟨F', k1.only (only_keep k) wk (fun x hx e => ?_), k2.trans (only_keep k) (fun x hx => .inr (by rw [List.mem_singleton] at hx; omega)), k3.trans wk, k4⟩
  rw [List.mem_singleton] at e
  subst e
  rcases k4 x hx with h9 | h9
  · exact hF h9
  · omega
theorem BkS.below (h : BkS w n F g b w1) (hb : Below w1.heap.size w1 w2) : BkS w n F g b w2 := by
  obtain ⟨F', h1, h2, h3, h4⟩ := h
  exact ⟨F', h1.below hb, h2.trans (Only.of_below [] hb) (fun x hx => by simp at hx), h3.trans (WK.below hb), h4⟩
theorem BkS.set (h : BkS w n F g b w1) (hn : w.heap.size ≤ n) (v : Value) (hc : ∀ va vp vm, (bkCells b va vp vm).setIfInBounds i v = bkCells b' va vp vm) (hp : b'.prog = b.prog) (hm : b'.met = b.met) (ha : b'.asks = b.asks) (hu : b'.used = b.used) : BkS w n F g b' (w1.setCell ⟨g, i, none⟩ v) := by
  obtain ⟨F', ⟨va, vp, vm, ps, h1⟩, h2, h3, h4⟩ := h
  obtain ⟨k1, k2, k3⟩ := h1.set v (hc va vp vm) hp hm ha (by rw [hu]; exact h1.ul)
  refine ⟨F', ⟨va, vp, vm, ps, k1⟩, h2.trans k2 (fun x hx => ?_), h3.trans k3, h4⟩
  rcases h4 x hx with h9 | h9
  · exact .inl h9
  · right; omega
theorem BkS.step (h : BkS w n F g b w1) (hn : w.heap.size ≤ n) : BkStep w F g b w1 := by
  obtain ⟨F', k1, k2, k3, k4⟩ := h
  refine ⟨F', k1, k2, k3, fun x hx => ?_⟩
  rcases k4 x hx with h9 | h9
  · exact .inl h9
  · right; omega
end
theorem nz_five {t : TypeId} {w : World} {g : Nat} {s : Bool} {A D : Option Addr} {n c m d : Nat} {f : Int} (h : Box t w g #[.bool s, .slice A n c, .slice D m d, .int .u64 0, .int .i64 f]) : ∀ i u, w.cell? ⟨g, i, none⟩ = some u → NZ u := by
  intro i u hu
  rw [h.cell] at hu
  match i, hu with
  | 0, hu => injection hu with hu; subst hu; exact (NoW_bool _).nz
  | 1, hu => injection hu with hu; subst hu; exact (NoW_slice _ _ _).nz
  | 2, hu => injection hu with hu; subst hu; exact (NoW_slice _ _ _).nz
  | 3, hu => injection hu with hu; subst hu; exact fun x e => by injection e with _ e; exact e.symm
  | 4, hu => injection hu with hu; subst hu; exact (NoW_i64 _).nz
  | i + 5, hu => simp at hu
theorem nilI_tight (w : World) {op a c : Int} (h1 : I64 op) (h2 : I64 a) (h3 : I64 c) : RI.tight w ⟨op, a, c, ⟨false, none, 0, 0, [], none, 0, 0, []⟩⟩ :=
  ⟨⟨h1, h2, h3, Sl.nil _ _ _, Sl.nil _ _ _, by show 0 ≤ maxLen; unfold maxLen; omega, by show 0 ≤ maxLen; unfold maxLen; omega⟩, .inl rfl, .inl rfl⟩

set_option maxRecDepth 100000 in
set_option maxHeartbeats 4000000 in
theorem bk_lit2 {w : World} {F : List Nat} {g : Nat} {b : PB} {p q u : Int} (h : Bk w F g b) (he : b.err = 0) (hm : b.mode = 2) (hl : b.prog.length < 65536) (hi : b.ins < 1000000000) :
    Calls Tryz.prog 33 #[.pointer (some ⟨g, 0, none⟩), .agg #[.int .i64 p, .int .i64 q, .int .u64 u]] w (fun r w' => r = .returned (.agg #[.bool false, .slice none 0 0, .slice none 0 0, .int .u64 0, .int .i64 b.prog.length]) ∧ BkStep w F g { b with prog := b.prog ++ [⟨1, b.ins, 0, nilQ⟩], ins := b.ins + 1 } w') := by
  obtain ⟨V1, hW1, B1, B2, hb1, hs1⟩ := boxesV 67 53 w #[.int .i64 p, .int .i64 q, .int .u64 u] SV.zero.agg
  obtain ⟨V, hW, B3, hb2⟩ := box0 53 V1 SV.zero.agg
  have hsV : V.heap.size = V1.heap.size + 1 := by rw [← hW]; simp
  have hb := bb hb1 hb2
  replace B2 := B2.below' hb2
  simp only [SV.agg, SV.zero] at hW1 hW B2 B3
  rw [hs1] at B3
  have hF := h.lt
  have hV := h.below hb
  have E := bk_err (h.below hb1)
  have WR := bk_write (op := 1) (a := (b.ins : Int)) (c := 0) (q := ⟨false, none, 0, 0, [], none, 0, 0, []⟩) hV (nilI_tight V (by unfold I64; omega) (by unfold I64; omega) (by unfold I64; omega)) hl
  rw [he] at E
  obtain ⟨va, vp, vm, ps, hA⟩ := hV
  obtain ⟨j0, j1, j2, j3, j4, j5, j6, j7, j8, j9, j10⟩ := hA.cells
  rw [hm] at j0
  have hg : g < w.heap.size := hF g ((hA.own g).2 (.inl rfl))
  have HE := Lib.hid E
  have HWR := Lib.hid WR
  have HW1 := Lib.hid hW1
  have HW := Lib.hid hW
  have HB2 := Lib.hid B2
  have HB3 := Lib.hid B3
  obtain ⟨L, hL⟩ : ∃ L : Nat, L = b.prog.length := ⟨_, rfl⟩
  rw [← hL] at HWR hl ⊢
  obtain ⟨I, hI⟩ : ∃ I : Nat, I = b.ins := ⟨_, rfl⟩
  have HII := Lib.hid hI
  rw [← hI] at HWR j8 hi
  have R9 := fun (w1 : World) => bk_result_ok (w := w1) (p := some ⟨g, 0, none⟩) ⟨false, none, 0, 0, none, 0, 0, 0, (L : Int)⟩
  simp only [SV.agg] at R9
  have HR9 := Lib.hid R9
  clear E WR hW hW1 B1 B2 B3 hA h j1 j2 j3 j4 j5 j6 j7 j9 j10 hL hI R9
  go_enter Tryz.func33, Tryz.ntmps33
  go_wp2_with fail
  rw [HW1.out]
  with_reducible refine HE.out.mono ?_
  rintro _ _ ⟨rfl, rfl⟩
  go_upto_region 5 with (fail)
  rw [HW.out]
  go_wp2_with fail
  with_reducible refine HWR.out.mono ?_
  rintro _ w3 ⟨rfl, st3⟩
  have C3 := st3.box HB3.out (fun hx => by have := hF _ hx; omega)
  have C2 := st3.box HB2.out (fun hx => by have := hF _ hx; omega)
  obtain ⟨⟨r0, r1, r2, r3, r4⟩, f0, f1, f2, f3, f4⟩ := C3.five
  have HC2 := Lib.hid C2
  have HC3 := Lib.hid C3
  have HST := Lib.hid (st3.s hb)
  clear st3 C2 C3
  have hnF : ∀ x, w.heap.size ≤ x → x ∉ F := fun x hx e => by have := hF x e; omega
  go_upto_region 12 with (fail)
  obtain ⟨W4, hW4⟩ : ∃ W, w3.setCell ⟨w.heap.size + 1 + 1, 4, none⟩ (.int .i64 (L : Int)) = W := ⟨_, rfl⟩
  have D3 : Box 53 W4 (w.heap.size + 1 + 1) #[.bool false, .slice none 0 0, .slice none 0 0, .int .u64 0, .int .i64 L] := by rw [← hW4]; exact box_setI HC3.out 4 _
  have D2 : Box 53 W4 (w.heap.size + 1) #[.bool false, .slice none 0 0, .slice none 0 0, .int .u64 0, .int .i64 0] := by rw [← hW4]; exact Box.setOther HC2.out (by omega) 4 _
  have S4 : BkS w V.heap.size F g (b.wrote1 ⟨1, b.ins, 0, nilQ⟩) W4 := by rw [← hW4, ← HII.out]; exact HST.out.keep ((Keep.refl _ w3).setCell 4 _) (by omega) (by omega) (hnF _ (by omega)) (nz_five HC3.out)
  rw [hW4]
  clear r0 r1 r2 r3 r4 f0 f1 f2 f3 f4 HC2 HC3 HST hW4
  have HS4 := Lib.hid S4
  obtain ⟨F4, ⟨va4, vp4, vm4, ps4, hA4⟩, _⟩ := S4
  have i8 : W4.cell? ⟨g, 8, none⟩ = some (.int .i64 I) := by have h9 := hA4.box.cell 8; rw [HII.out]; exact h9
  have fg8 := hA4.box.free 8
  have HD2 := Lib.hid D2
  have HD3 := Lib.hid D3
  clear hA4 D2 D3
  go_upto_region 14 with (fail)
  obtain ⟨W5, hW5⟩ : ∃ W, W4.setCell ⟨g, 8, none⟩ (.int .i64 ((I : Int) + 1)) = W := ⟨_, rfl⟩
  have D3 : Box 53 W5 (w.heap.size + 1 + 1) #[.bool false, .slice none 0 0, .slice none 0 0, .int .u64 0, .int .i64 L] := by rw [← hW5]; exact Box.setOther HD3.out (by omega) 8 _
  have D2 : Box 53 W5 (w.heap.size + 1) #[.bool false, .slice none 0 0, .slice none 0 0, .int .u64 0, .int .i64 0] := by rw [← hW5]; exact Box.setOther HD2.out (by omega) 8 _
  have S5 : BkS w V.heap.size F g { b with prog := b.prog ++ [⟨1, b.ins, 0, nilQ⟩], ins := b.ins + 1 } W5 := by
    rw [← hW5]
    exact HS4.out.set (by omega) _ (fun va vp vm => by rw [HII.out]; unfold bkCells PB.wrote1; simp) rfl rfl rfl rfl
  rw [hW5]
  obtain ⟨⟨r0, r1, r2, r3, r4⟩, _⟩ := D3.five
  have HS5 := Lib.hid S5
  have HD2' := Lib.hid D2
  clear hW5 S5 D2 D3 HD2 HD3 i8 fg8 HS4
  go_wp2_with fail
  with_reducible refine (HR9.out _).mono ?_
  rintro _ w6 ⟨rfl, b6⟩
  have E2 := HD2'.out.below' b6
  have HE2 := Lib.hid E2
  obtain ⟨⟨r0, r1, r2, r3, r4⟩, f0, f1, f2, f3, f4⟩ := E2.five
  clear E2
  go_wp2_with fail
  refine bodyPost_ret (v := .agg #[.bool false, .slice none 0 0, .slice none 0 0, .int .u64 0, .int .i64 L]) (by simp [results, Tryz.results33, go_sem, r0, r1, r2, r3, r4]) rfl ?_
  exact ⟨rfl, ((HS5.out.below b6).keep (keep_put5 w6 (w.heap.size + 1) _ _ _ _ _) (by omega) (by omega) (hnF _ (by omega)) (nz_five HE2.out)).step (by omega)⟩

end Go.Proofs.YthpbaaanbimapaaGreatDoor

namespace Go.Proofs.YthpbaaanbimapaaGreatDoor
set_option maxRecDepth 100000
open Go.RowKit
set_option linter.unusedVariables false
set_option linter.unusedSimpArgs false

/-- a call that only makes memory, and returns a scalar that reads as p -/
def RetVB (p : PV) (w : World) (e : Ending) (w' : World) : Prop := ∃ x : SV, e = .returned (.agg x.agg) ∧ x.is w' p ∧ Below w.heap.size w w'
theorem Q.keep5 {w w' : World} {g : Nat} {s : Bool} {A A' : Option Addr} {n c n' c' : Nat} {X : Rat} (h : Q w s A n c A' n' c' X) (k : Keep g w w') (hz : ∀ i u, w.cell? ⟨g, i, none⟩ = some u → NZ u) : Q w' s A n c A' n' c' X := Q.wk h (wk_keep k hz)

set_option maxRecDepth 100000 in
set_option maxHeartbeats 4000000 in
theorem bk_num0 {w : World} {F : List Nat} {g : Nat} {b : PB} {p q : Int} (h : Bk w F g b) (he : b.err = 0) (hm : b.mode = 0) (p1 : -9223372036854775808 ≤ p) (p2 : p ≤ 9223372036854775807) (q1 : -9223372036854775808 ≤ q) (q2 : q ≤ 9223372036854775807) (h0 : q ≠ 0) :
    Calls Tryz.prog 24 #[.pointer (some ⟨g, 0, none⟩), .int .i64 p, .int .i64 q] w (RetVB ⟨some ((p : Rat) / (q : Rat)), 0, 0⟩ w) := by
  obtain ⟨V1, hW1, B1, hb1⟩ := box0 53 w SV.zero.agg
  obtain ⟨V, hW, B3, hb2⟩ := box0 53 V1 SV.zero.agg
  have hs1 : V1.heap.size = w.heap.size + 1 := by rw [← hW1]; simp
  have hs2 : V.heap.size = w.heap.size + 1 + 1 := by rw [← hW, World.size_alloc, hs1]
  have hb := bb hb1 hb2
  rw [hs1] at B3
  replace B1 := B1.below' hb2
  simp only [SV.agg, SV.zero] at hW1 hW B1 B3
  have E := bk_err (h.below hb1)
  rw [he] at E
  have QT := fun w1 => bk_quotient (w := w1) p1 p2 q1 q2 h0
  have hJ : ∀ w1, Below w.heap.size w w1 → w1.cell? ⟨g, 0, none⟩ = some (.int .i64 0) := fun w1 hb9 => by
    obtain ⟨va, vp, vm, ps, hA⟩ := h.below hb9
    rw [← hm]
    exact hA.cells.1
  generalize (p : Rat) / (q : Rat) = X at *
  have HQT := Lib.hid QT
  have HE := Lib.hid E
  have HW1 := Lib.hid hW1
  have HW := Lib.hid hW
  have HB1 := Lib.hid B1
  have HB3 := Lib.hid B3
  have HJ := Lib.hid hJ
  clear QT E hW1 hW B1 B3 hJ h
  go_enter Tryz.func24, Tryz.ntmps24
  go_wp2_with fail
  rw [HW1.out]
  with_reducible refine HE.out.mono ?_
  rintro _ _ ⟨rfl, rfl⟩
  go_upto_region 4 with (fail)
  rw [HW.out]
  go_wp2_with fail
  with_reducible refine (HQT.out _).mono ?_
  rintro _ w3 ⟨s3, A3, n3, c3, D3, m3, d3, rfl, q3, b3⟩
  obtain ⟨V4, hV4, B4, hb4⟩ := box0 51 w3 #[.bool s3, .slice A3 n3 c3, .slice D3 m3 d3]
  have HV4 := Lib.hid hV4
  have C3 := HB3.out.below' (bb b3 hb4)
  have C1 := HB1.out.below' (bb b3 hb4)
  have j0 := HJ.out _ (bb hb (bb b3 hb4))
  obtain ⟨⟨k0, k1, k2⟩, _⟩ := B4.three
  obtain ⟨⟨r0, r1, r2, r3, r4⟩, f0, f1, f2, f3, f4⟩ := C3.five
  have HC3 := Lib.hid C3
  have HC1 := Lib.hid C1
  have HQ := Lib.hid (q3.below hb4)
  clear hV4 B4 C3 C1 q3
  go_upto_region 5 with (fail)
  rw [HV4.out]
  go_upto_region 13 with (fail)
  obtain ⟨W5, hW5⟩ : ∃ W, put3 V4 (w.heap.size + 1) (.bool s3) (.slice A3 n3 c3) (.slice D3 m3 d3) = W := ⟨_, rfl⟩
  have E3 : Box 53 W5 (w.heap.size + 1) #[.bool s3, .slice A3 n3 c3, .slice D3 m3 d3, .int .u64 0, .int .i64 0] := by rw [← hW5]; exact box_setI (box_setI (box_setI HC3.out 0 _) 1 _) 2 _
  have E1 : Box 53 W5 w.heap.size #[.bool false, .slice none 0 0, .slice none 0 0, .int .u64 0, .int .i64 0] := by rw [← hW5]; exact HC1.out.put3 (by omega) _ _ _
  have y5 : Below w.heap.size w W5 := by rw [← hW5]; exact below_put3 (bb hb (bb b3 hb4)) (by omega) (Nat.le_refl _) _ _ _
  have Q5 : Q W5 s3 A3 n3 c3 D3 m3 d3 X := by rw [← hW5]; exact HQ.out.keep5 (keep_put3 _ _ _ _ _) (nz_five HC3.out)
  unfold put3 at hW5
  (try rw [hW5])
  obtain ⟨⟨r0, r1, r2, r3, r4⟩, _⟩ := E3.five
  have R9 := bk_result_ok (w := W5) (p := some ⟨g, 0, none⟩) ⟨s3, A3, n3, c3, D3, m3, d3, 0, 0⟩
  simp only [SV.agg] at R9
  have HR9 := Lib.hid R9
  have HE1 := Lib.hid E1
  have HQ5 := Lib.hid Q5
  have HY5 := Lib.hid y5
  clear hW5 E3 E1 Q5 R9 HC3 HC1 HQ f0 f1 f2 f3 f4 y5 k0 k1 k2
  go_wp2_with fail
  with_reducible refine HR9.out.mono ?_
  rintro _ w6 ⟨rfl, b6⟩
  have E2 := HE1.out.below' b6
  have HE2 := Lib.hid E2
  obtain ⟨⟨r0, r1, r2, r3, r4⟩, f0, f1, f2, f3, f4⟩ := E2.five
  clear E2
  go_wp2_with fail
  refine bodyPost_ret (v := .agg #[.bool s3, .slice A3 n3 c3, .slice D3 m3 d3, .int .u64 0, .int .i64 0]) (by simp [results, Tryz.results24, go_sem, r0, r1, r2, r3, r4]) rfl ?_
  exact ⟨⟨s3, A3, n3, c3, D3, m3, d3, 0, 0⟩, rfl, ⟨rfl, rfl, (HQ5.out.below b6).keep5 (keep_put5 _ _ _ _ _ _ _) (nz_five HE2.out)⟩, below_put5 (bb HY5.out b6) (Nat.le_refl _) (Nat.le_refl _) _ _ _ _ _⟩

end Go.Proofs.YthpbaaanbimapaaGreatDoor

namespace Go.Proofs.YthpbaaanbimapaaGreatDoor
set_option maxRecDepth 100000
open Go.RowKit
set_option linter.unusedVariables false
set_option linter.unusedSimpArgs false

theorem boxesR3 (t : TypeId) (w : World) (vs us xs : Array Value) : ∃ W, ((w.alloc (.cells vs t)).alloc (.cells us t)).alloc (.cells xs t) = W ∧ Box t W w.heap.size vs ∧ Box t W (w.heap.size + 1) us ∧ Box t W (w.heap.size + 1 + 1) xs ∧ Below w.heap.size w W := by
  obtain ⟨W, h1, h2, h3, h4, h5, _⟩ := boxesV3 t t t w vs us xs
  exact ⟨W, h1, h2, h3, h4, h5⟩

set_option maxHeartbeats 2000000 in
theorem ex_add {w : World} {s t : Bool} {A A' B B' : Option Addr} {n n' c c' m m' d d' N : Nat} {X Y : Rat} (h : Q w s A n c A' n' c' X) (hX : Sz X N) (k : Q w t B m d B' m' d' Y) (hY : Sz Y N) (hN : N ≤ 40000) :
    Calls Tryz.prog 170 #[.int .i64 4, .agg #[.bool s, .slice A n c, .slice A' n' c'], .agg #[.bool t, .slice B m d, .slice B' m' d']] w (RetQE (X + Y) 0 w) := by
  obtain ⟨V, hW, B1, B2, Br, hb⟩ := boxesR3 51 w #[.bool s, .slice A n c, .slice A' n' c'] #[.bool t, .slice B m d, .slice B' m' d'] #[.bool false, .slice none 0 0, .slice none 0 0]
  have K := rat_add (h.below hb) (k.below hb) hX hY (by omega)
  obtain ⟨⟨k0, k1, k2⟩, _⟩ := B1.three
  obtain ⟨⟨j0, j1, j2⟩, _⟩ := B2.three
  obtain ⟨⟨r0, r1, r2⟩, f0, f1, f2⟩ := Br.three
  have HW := Lib.hid hW
  have HBr := Lib.hid Br
  generalize X + Y = Z at *
  have HK := Lib.hid K
  clear K
  clear hW B1 B2 Br
  go_enter Tryz.func170, Tryz.ntmps170
  go_upto_region 1 with (fail)
  rw [HW.out]
  clear r0 r1 r2 f0 f1 f2
  go_wp2_with fail
  with_reducible refine HK.out.mono ?_
  rintro _ w1 ⟨s1, A1, n1, c1, D1, m1, d1, rfl, q1, b1⟩
  have Br1 := HBr.out.below' b1
  have HB1 := Lib.hid Br1
  obtain ⟨⟨r0, r1, r2⟩, f0, f1, f2⟩ := Br1.three
  clear Br1
  go_wp2_with fail
  refine bodyPost_ret (v := .tuple #[.agg #[.bool s1, .slice A1 n1 c1, .slice D1 m1 d1], .int .i64 0]) (by simp [results, Tryz.results170, go_sem, r0, r1, r2]) rfl ?_
  exact ⟨_, _, _, _, _, _, _, rfl, q1.put3 ⟨_, _, _, _, _, _, _, HB1.out⟩, below_put3 (bb hb b1) (by omega) (Nat.le_refl _) _ _ _⟩

end Go.Proofs.YthpbaaanbimapaaGreatDoor
