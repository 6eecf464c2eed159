/-
  The law BankTells. No condition.
-/
import Derived.Test.YthpbaaanbimapaaGreatDoorBkKAllC
import Derived.Test.YthpbaaanbimapaaGreatDoorBkCAllC
import Derived.Test.YthpbaaanbimapaaGreatDoorProg
import Derived.Test.YthpbaaanbimapaaGreatDoorU64AllC
import Derived.KernelRfl
import Derived.Lib.SmallJoins
import Derived.Test.YthpbaaanbimapaaGreatDoorBkQAllC
import Derived.Test.YthpbaaanbimapaaGreatDoorBkSOneC
namespace Go.Proofs.YthpbaaanbimapaaGreatDoor
set_option maxRecDepth 100000
open Go.RowKit
set_option linter.unusedVariables false
set_option linter.unusedSimpArgs false

/-- in a bank with an error no number is made -/
theorem bk_num_err {w : World} {F : List Nat} {g : Nat} {b : PB} {p q : Int} (h : Bk w F g b) (he : b.err ≠ 0) :
    Calls Tryz.prog 24 #[.pointer (some ⟨g, 0, none⟩), .int .i64 p, .int .i64 q] w (fun r w' => r = .returned (.agg #[.bool false, .slice none 0 0, .slice none 0 0, .int .u64 0, .int .i64 0]) ∧ Below w.heap.size w w') := by
  obtain ⟨V, hW, B1, hb⟩ := box0 53 w SV.zero.agg
  have E := bk_err (h.below hb)
  have d1 : (b.err == 0) = false := by simpa using he
  simp only [SV.agg, SV.zero] at hW B1
  obtain ⟨⟨k0, k1, k2, k3, k4⟩, f0, f1, f2, f3, f4⟩ := B1.five
  have HE := Lib.hid E
  have HW := Lib.hid hW
  have HB1 := Lib.hid B1
  clear E hW h B1
  go_enter Tryz.func24, Tryz.ntmps24
  go_upto_region 1 with (fail)
  rw [HW.out]
  go_wp2_with fail
  refine HE.out.mono ?_
  rintro _ _ ⟨rfl, rfl⟩
  go_wp2_with fail
  refine bodyPost_ret (v := .agg #[.bool false, .slice none 0 0, .slice none 0 0, .int .u64 0, .int .i64 0]) (by simp [results, Tryz.results24, go_sem, k0, k1, k2, k3, k4]) rfl ?_
  exact ⟨rfl, below_put5 hb (Nat.le_refl _) (Nat.le_refl _) _ _ _ _ _⟩

theorem bk_less_err {w : World} {F : List Nat} {g : Nat} {b : PB} {x y : SV} (h : Bk w F g b) (he : b.err ≠ 0) :
    Calls Tryz.prog 25 #[.pointer (some ⟨g, 0, none⟩), .agg x.agg, .agg y.agg] w (RetBl false w) := by
  obtain ⟨V, hW, B1, B2, hb, hs⟩ := boxesV 53 53 w x.agg y.agg
  have E := bk_err (h.below hb)
  have d1 : (b.err == 0) = false := by simpa using he
  simp only [SV.agg] at hW ⊢
  have HE := Lib.hid E
  have HW := Lib.hid hW
  clear E hW h B1 B2
  go_enter Tryz.func25, Tryz.ntmps25
  go_upto_region 1 with (fail)
  rw [HW.out]
  go_wp2_with fail
  refine HE.out.mono ?_
  rintro _ _ ⟨rfl, rfl⟩
  go_wp2_with fail
  go_ret
  exact ⟨rfl, hb⟩

/-- what Copy returns reads as what came in -/
def RetCopy (x : SV) (xs ys : List Int) (w : World) (e : Ending) (w' : World) : Prop := ∃ A n c A' n' c', e = .returned (.agg #[.bool x.s, .slice A n c, .slice A' n' c', .int .u64 x.u, .int .i64 x.f]) ∧ Sl w' A n c xs ∧ Sl w' A' n' c' ys ∧ Below w.heap.size w w'
theorem sl_keepNew {w0 w w' : World} {g : Nat} {A : Option Addr} {n c : Nat} {xs : List Int} (h : Sl w A n c xs) (hN : New w0 A) (hg : g < w0.heap.size) (k : Keep g w w') : Sl w' A n c xs := by
  have hS : SlN g w A n c xs := ⟨h, fun h0 => by
    obtain ⟨b, off, e, hlt, hc⟩ := h.2 h0
    refine ⟨b, off, e, fun e2 => ?_⟩
    subst e2
    have := hN _ _ e
    omega⟩
  exact (hS.keep k).sl

theorem box_put5 {t : TypeId} {w : World} {g g' : Nat} {vs : Array Value} (h : Box t w g vs) (hne : g ≠ g') (x0 x1 x2 x3 x4 : Value) : Box t (put5 w g' x0 x1 x2 x3 x4) g vs := ((keep_put5 w g' x0 x1 x2 x3 x4).block g h.lt hne).trans h
set_option maxRecDepth 100000 in
set_option maxHeartbeats 4000000 in
theorem bk_copyV {w : World} {x : SV} {xs ys : List Int} (h : Sl w x.A x.n x.c xs) (h' : Sl w x.D x.m x.d ys) (hn : x.n ≤ 1000000) (hn' : x.m ≤ 1000000) :
    Calls Tryz.prog 29 #[.agg x.agg] w (RetCopy x xs ys w) := by
  obtain ⟨V, hW, Ba, Br, hb0, hs⟩ := boxesV 53 53 w x.agg SV.zero.agg
  obtain ⟨s, A, n, c, D, m, d, u, f⟩ := x
  have K := fun w1 (hb : Below V.heap.size V w1) => bk_clone (s := s) (h.below (bb hb0 hb)) (h'.below (bb hb0 hb)) hn hn'
  simp only [SV.agg, SV.zero] at hW Ba Br K ⊢
  have hS : ∀ w', Below V.heap.size V w' → w'.cell? ⟨w.heap.size, 0, none⟩ = some (.bool s) ∧ w'.cell? ⟨w.heap.size, 1, none⟩ = some (.slice A n c) ∧ w'.cell? ⟨w.heap.size, 2, none⟩ = some (.slice D m d) ∧ w'.cell? ⟨w.heap.size, 3, none⟩ = some (.int .u64 u) ∧ w'.cell? ⟨w.heap.size, 4, none⟩ = some (.int .i64 f) := fun w' hb => (Ba.below' hb).five.1
  have HK := Lib.hid K
  have HS := Lib.hid hS
  have HBa := Lib.hid Ba
  have HBr := Lib.hid Br
  have HW := Lib.hid hW
  clear K hS Ba Br hW h h'
  go_enter Tryz.func29, Tryz.ntmps29
  go_wp2_with fail
  rw [HW.out]
  obtain ⟨k0, k1, k2, k3, k4⟩ := HS.out _ (Below.refl _ V)
  go_region_held3 (fun w' => w'.cell? ⟨w.heap.size, 0, none⟩ = some (.bool s) ∧ w'.cell? ⟨w.heap.size, 1, none⟩ = some (.slice A n c) ∧ w'.cell? ⟨w.heap.size, 2, none⟩ = some (.slice D m d) ∧ w'.cell? ⟨w.heap.size, 3, none⟩ = some (.int .u64 u) ∧ w'.cell? ⟨w.heap.size, 4, none⟩ = some (.int .i64 f)) (first | with_reducible exact HS.out _ (Below.refl _ V).drew | with_reducible exact HS4.out | with_reducible exact HS.out _ x1 | fail)
    (first
      | (go_at_call 47; (with_reducible refine (HK.out _ ?hb1).mono ?_); (case hb1 => exact (Below.refl _ V).drew); rintro _ w1 ⟨A1, n1, c1, A2, n2, c2, rfl, t1, t2, b1, nw1, nw2⟩; have x1 : Below V.heap.size V w1 := Below.undrew b1; have HS4 := Lib.hid (box_put5 (HBa.out.below' x1) (show w.heap.size ≠ w.heap.size + 1 by omega) (.bool s) (.slice A1 n1 c1) (.slice A2 n2 c2) (.int .u64 u) (.int .i64 f)).five.1; unfold put5 at HS4; have B9 := HBr.out.below' x1; obtain ⟨⟨r0, r1, r2, r3, r4⟩, f0, f1, f2, f3, f4⟩ := B9.five))
  all_goals
    go_wp2_with fail
    refine bodyPost_ret (v := .agg #[.bool s, .slice A1 n1 c1, .slice A2 n2 c2, .int .u64 u, .int .i64 f]) (by simp [results, Tryz.results29, go_sem, r0, r1, r2, r3, r4]) rfl ?_
    refine ⟨_, _, _, _, _, _, rfl, sl_keepNew t1 nw1 (by simp; omega) (keep_put5 w1 (w.heap.size + 1) _ _ _ _ _), sl_keepNew t2 nw2 (by simp; omega) (keep_put5 w1 (w.heap.size + 1) _ _ _ _ _), below_put5 (bb hb0 x1) (by omega) (Nat.le_refl _) _ _ _ _ _⟩

end Go.Proofs.YthpbaaanbimapaaGreatDoor

namespace Go.Proofs.YthpbaaanbimapaaGreatDoor
set_option maxRecDepth 100000
open Go.RowKit Go.WideShapes Go.ChangeShapes
set_option linter.unusedVariables false

theorem rat_ty : RatTy Tryz.prog 51 :=
  ⟨⟨_, _, _, Tryz.underlying51, rfl, rfl, rfl, by kernel_rfl, by kernel_rfl, by kernel_rfl, Tryz.underlying4, _, _, Tryz.underlying49, Tryz.underlying49, Tryz.underlying34, Tryz.underlying34, by kernel_rfl, by kernel_rfl⟩, by kernel_rfl⟩
theorem ins_ty : InsTy Tryz.prog 80 :=
  ⟨⟨_, _, _, _, Tryz.underlying80, rfl, rfl, rfl, rfl, by kernel_rfl, by kernel_rfl, by kernel_rfl, Tryz.underlying3, Tryz.underlying3, Tryz.underlying3, rat_ty⟩, by kernel_rfl⟩
section
variable {H : Type} {enc : TypeId × Value → H} {w : World} {base b0 : Nat} {held : Bool} {r : Reach} {v : Value} {d : DataW H} {p : List MemPlace}
theorem arg_rats (hv : Value.okWide Tryz.prog w r b0 71 v) (h : DataW.Trod enc Tryz.prog w base (fun _ => true) held 71 v d p) : ∃ A n c xs, v = .slice A n c ∧ SlR w A n c xs := by
  obtain ⟨A, n, c, rfl⟩ := okWide_slice Tryz.underlying71 hv
  obtain ⟨fuel, hf⟩ := h
  exact open_slr Tryz.underlying71 rat_ty (by simpa [Value.cells] using hf)
theorem arg_inss (hv : Value.okWide Tryz.prog w r b0 46 v) (h : DataW.Trod enc Tryz.prog w base (fun _ => true) held 46 v d p) : ∃ A n c xs, v = .slice A n c ∧ SlP w A n c xs := by
  obtain ⟨A, n, c, rfl⟩ := okWide_slice Tryz.underlying46 hv
  obtain ⟨fuel, hf⟩ := h
  exact open_slp Tryz.underlying46 ins_ty (by simpa [Value.cells] using hf)
theorem arg_words (hv : Value.okWide Tryz.prog w r b0 49 v) (h : DataW.Trod enc Tryz.prog w base (fun _ => true) held 49 v d p) : ∃ A n c z, v = .slice A n c ∧ Sl w A n c z ∧ n ≤ maxLen := by
  obtain ⟨A, n, c, rfl⟩ := okWide_slice Tryz.underlying49 hv
  obtain ⟨fuel, hf⟩ := h
  exact open_sl Tryz.underlying49 Tryz.underlying34 (by kernel_rfl) (by simpa [Value.cells] using hf)
theorem arg_rat (hv : Value.okWide Tryz.prog w r b0 51 v) (h : DataW.Trod enc Tryz.prog w base (fun _ => true) held 51 v d p) : ∃ q : RQ, v = .agg #[.bool q.s, .slice q.A q.n q.c, .slice q.A' q.n' q.c'] ∧ q.ok w := by
  obtain ⟨cs, rfl, hsz⟩ := okWide_struct Tryz.underlying51 hv
  obtain ⟨fuel, hf⟩ := h
  obtain ⟨q, e, ok⟩ := open_rq rat_ty (by simpa [Value.cells] using hf)
  obtain ⟨l⟩ := cs
  refine ⟨q, ?_, ok⟩
  have e2 : l = q.cells := by simpa using e
  rw [e2]
  rfl
theorem arg_ins (hv : Value.okWide Tryz.prog w r b0 80 v) (h : DataW.Trod enc Tryz.prog w base (fun _ => true) held 80 v d p) : ∃ q : RI, v = .agg #[.int .i64 q.op, .int .i64 q.a, .int .i64 q.b, .bool q.q.s, .slice q.q.A q.q.n q.q.c, .slice q.q.A' q.q.n' q.q.c'] ∧ q.ok w := by
  obtain ⟨cs, rfl, hsz⟩ := okWide_struct Tryz.underlying80 hv
  obtain ⟨fuel, hf⟩ := h
  obtain ⟨q, e, ok⟩ := open_ri ins_ty (by simpa [Value.cells] using hf)
  obtain ⟨l⟩ := cs
  refine ⟨q, ?_, ok⟩
  have e2 : l = q.cells := by simpa using e
  rw [e2]
  rfl
end

end Go.Proofs.YthpbaaanbimapaaGreatDoor

namespace Go.Proofs.YthpbaaanbimapaaGreatDoor
set_option maxRecDepth 100000
open Go.RowKit Go.Joins Go.WideShapes Go.ChangeShapes
set_option linter.unusedVariables false
set_option linter.unusedSimpArgs false

/-- what the walk is told of a scalar that came in: its rows of words -/
def InV (w : World) (x : SV) (xs ys : List Int) : Prop := Sl w x.A x.n x.c xs ∧ Sl w x.D x.m x.d ys ∧ x.n ≤ maxLen ∧ x.m ≤ maxLen ∧ (Lit.int .u64 x.u).wf = true ∧ (Lit.int .i64 x.f).wf = true
section
variable {H : Type} {enc : TypeId × Value → H} {w : World} {base b0 : Nat} {held : Bool} {r : Reach} {v : Value} {d : DataW H} {p : List MemPlace}
theorem arg_val (hv : Value.okWide Tryz.prog w r b0 53 v) (h : DataW.Trod enc Tryz.prog w base (fun _ => true) held 53 v d p) : ∃ (x : SV) (xs ys : List Int), v = .agg #[.bool x.s, .slice x.A x.n x.c, .slice x.D x.m x.d, .int .u64 x.u, .int .i64 x.f] ∧ InV w x xs ys := by
  obtain ⟨cs, rfl, hsz⟩ := okWide_struct Tryz.underlying53 hv
  obtain ⟨fuel, hf⟩ := h
  obtain ⟨xs, n, _, _, hl, hxl, hf⟩ := DataW.trod_struct Tryz.underlying53 hf
  rw [show Tryz.prog.cellsOf 53 = 5 by kernel_rfl] at hl
  obtain ⟨l⟩ := cs
  simp only [Value.cells] at hl hf
  match l, hl with
  | [v0, v1, v2, v3, v4], _ =>
    have g0 : DataW.trod enc Tryz.prog w base (fun _ => true) held n 51 (([v0, v1, v2, v3, v4].drop 0).take (Tryz.prog.cellsOf 51)) = xs[0]? := hf 0 _ rfl
    have g1 : DataW.trod enc Tryz.prog w base (fun _ => true) held n 34 (([v0, v1, v2, v3, v4].drop 3).take (Tryz.prog.cellsOf 34)) = xs[1]? := hf 1 _ rfl
    have g2 : DataW.trod enc Tryz.prog w base (fun _ => true) held n 3 (([v0, v1, v2, v3, v4].drop 4).take (Tryz.prog.cellsOf 3)) = xs[2]? := hf 2 _ rfl
    have hx : xs.length = 3 := hxl
    rw [List.getElem?_eq_getElem (by omega)] at g0 g1 g2
    simp only [show Tryz.prog.cellsOf 51 = 3 by kernel_rfl, show Tryz.prog.cellsOf 34 = 1 by kernel_rfl, show Tryz.prog.cellsOf 3 = 1 by kernel_rfl, List.drop_zero, List.take_succ_cons, List.take_zero, List.drop_succ_cons] at g0 g1 g2
    obtain ⟨q, eq_, o1, o2, o3, o4⟩ := open_rq rat_ty g0
    obtain ⟨u, e1, _, w1⟩ := DataW.trod_int Tryz.underlying34 g1
    obtain ⟨f, e2, _, w2⟩ := DataW.trod_int Tryz.underlying3 g2
    simp at e1 e2
    unfold RQ.cells at eq_
    simp at eq_
    obtain ⟨rfl, rfl, rfl⟩ := eq_
    subst e1 e2
    exact ⟨⟨q.s, q.A, q.n, q.c, q.A', q.n', q.c', u, f⟩, q.z, q.z', rfl, o1, o2, o3, o4, w1, w2⟩
theorem arg_mark (hv : Value.okWide Tryz.prog w r b0 63 v) (h : DataW.Trod enc Tryz.prog w base (fun _ => true) held 63 v d p) : ∃ (i a m o n : Int) (t : Bool) (e : Int), v = .agg #[.int .i64 i, .int .i64 a, .int .i64 m, .int .i64 o, .int .i64 n, .bool t, .int .i64 e] ∧ (Lit.int .i64 i).wf = true ∧ (Lit.int .i64 a).wf = true ∧ (Lit.int .i64 m).wf = true ∧ (Lit.int .i64 o).wf = true ∧ (Lit.int .i64 n).wf = true ∧ (Lit.int .i64 e).wf = true := by
  obtain ⟨cs, rfl, hsz⟩ := okWide_struct Tryz.underlying63 hv
  obtain ⟨fuel, hf⟩ := h
  obtain ⟨xs, n, _, _, hl, hxl, hf⟩ := DataW.trod_struct Tryz.underlying63 hf
  rw [show Tryz.prog.cellsOf 63 = 7 by kernel_rfl] at hl
  obtain ⟨l⟩ := cs
  simp only [Value.cells] at hl hf
  match l, hl with
  | [v0, v1, v2, v3, v4, v5, v6], _ =>
    have g0 : DataW.trod enc Tryz.prog w base (fun _ => true) held n 3 (([v0, v1, v2, v3, v4, v5, v6].drop 0).take (Tryz.prog.cellsOf 3)) = xs[0]? := hf 0 _ rfl
    have g1 : DataW.trod enc Tryz.prog w base (fun _ => true) held n 3 (([v0, v1, v2, v3, v4, v5, v6].drop 1).take (Tryz.prog.cellsOf 3)) = xs[1]? := hf 1 _ rfl
    have g2 : DataW.trod enc Tryz.prog w base (fun _ => true) held n 3 (([v0, v1, v2, v3, v4, v5, v6].drop 2).take (Tryz.prog.cellsOf 3)) = xs[2]? := hf 2 _ rfl
    have g3 : DataW.trod enc Tryz.prog w base (fun _ => true) held n 3 (([v0, v1, v2, v3, v4, v5, v6].drop 3).take (Tryz.prog.cellsOf 3)) = xs[3]? := hf 3 _ rfl
    have g4 : DataW.trod enc Tryz.prog w base (fun _ => true) held n 3 (([v0, v1, v2, v3, v4, v5, v6].drop 4).take (Tryz.prog.cellsOf 3)) = xs[4]? := hf 4 _ rfl
    have g5 : DataW.trod enc Tryz.prog w base (fun _ => true) held n 4 (([v0, v1, v2, v3, v4, v5, v6].drop 5).take (Tryz.prog.cellsOf 4)) = xs[5]? := hf 5 _ rfl
    have g6 : DataW.trod enc Tryz.prog w base (fun _ => true) held n 41 (([v0, v1, v2, v3, v4, v5, v6].drop 6).take (Tryz.prog.cellsOf 41)) = xs[6]? := hf 6 _ rfl
    have hx : xs.length = 7 := hxl
    rw [List.getElem?_eq_getElem (by omega)] at g0 g1 g2 g3 g4 g5 g6
    simp only [show Tryz.prog.cellsOf 4 = 1 by kernel_rfl, show Tryz.prog.cellsOf 41 = 1 by kernel_rfl, show Tryz.prog.cellsOf 3 = 1 by kernel_rfl, List.drop_zero, List.take_succ_cons, List.take_zero, List.drop_succ_cons] at g0 g1 g2 g3 g4 g5 g6
    obtain ⟨x0, e0, _, w0⟩ := DataW.trod_int Tryz.underlying3 g0
    obtain ⟨x1, e1, _, w1⟩ := DataW.trod_int Tryz.underlying3 g1
    obtain ⟨x2, e2, _, w2⟩ := DataW.trod_int Tryz.underlying3 g2
    obtain ⟨x3, e3, _, w3⟩ := DataW.trod_int Tryz.underlying3 g3
    obtain ⟨x4, e4, _, w4⟩ := DataW.trod_int Tryz.underlying3 g4
    obtain ⟨t, e5, _⟩ := DataW.trod_bool Tryz.underlying4 g5
    obtain ⟨x6, e6, _, w6⟩ := DataW.trod_int Tryz.underlying41 g6
    simp at e0 e1 e2 e3 e4 e5 e6
    subst e0 e1 e2 e3 e4 e5 e6
    exact ⟨x0, x1, x2, x3, x4, t, x6, rfl, w0, w1, w2, w3, w4, w6⟩
end

end Go.Proofs.YthpbaaanbimapaaGreatDoor

namespace Go.Proofs.YthpbaaanbimapaaGreatDoor
set_option maxRecDepth 100000
open Go.RowKit
set_option linter.unusedVariables false
set_option linter.unusedSimpArgs false

theorem same_self (x : SV) (xs ys : List Int) : decide (x.u = x.u ∧ x.f = x.f ∧ x.s = x.s ∧ xs = xs ∧ ys = ys) = true := decide_eq_true ⟨rfl, rfl, rfl, rfl, rfl⟩

set_option maxRecDepth 100000 in
set_option maxHeartbeats 1000000 in
theorem bankTells_row (mode : Int) (x : SV) (xs ys : List Int) (y : SV) (us zs : List Int) (hmode : (Lit.int .i64 mode).wf = true) (w : World) (hx : InV w x xs ys) (hy : InV w y us zs) :
    Calls Tryz.prog 4 #[.int .i64 mode, .agg #[.bool x.s, .slice x.A x.n x.c, .slice x.D x.m x.d, .int .u64 x.u, .int .i64 x.f], .agg #[.bool y.s, .slice y.A y.n y.c, .slice y.D y.m y.d, .int .u64 y.u, .int .i64 y.f]] w (fun r w' => r = .returned (.bool true) ∧ Below w.heap.size w w') := by
  have S18 := fun w => Lib.hid (same18 w)
  obtain ⟨V, hV, B1, B2, hb, hs⟩ := boxesV 53 53 w #[.bool x.s, .slice x.A x.n x.c, .slice x.D x.m x.d, .int .u64 x.u, .int .i64 x.f] #[.bool y.s, .slice y.A y.n y.c, .slice y.D y.m y.d, .int .u64 y.u, .int .i64 y.f]
  obtain ⟨V2, hV2, B3, hb2⟩ := box0 53 V #[.bool x.s, .slice x.A x.n x.c, .slice x.D x.m x.d, .int .u64 x.u, .int .i64 x.f, .bool y.s, .slice y.A y.n y.c, .slice y.D y.m y.d, .int .u64 y.u, .int .i64 y.f]
  have hWD : SlV V2 (some ⟨V.heap.size, 0, none⟩) 2 2 [x, y] := by
    refine ⟨⟨rfl, Nat.le_refl _, by unfold maxLen; omega, fun z hz => ⟨trivial, ?_⟩⟩, fun _ => ⟨V.heap.size, 0, rfl, B3.lt, fun j hj i hi => ?_⟩⟩
    · simp at hz
      rcases hz with rfl | rfl <;> rfl
    · rw [B3.cell]
      obtain rfl | rfl : j = 0 ∨ j = 1 := by omega
      all_goals
        obtain rfl | rfl | rfl | rfl | rfl : i = 0 ∨ i = 1 ∨ i = 2 ∨ i = 3 ∨ i = 4 := by omega
        all_goals rfl
  have WD := plain_wide hWD 20
  rw [hs] at WD
  have hBW := bb hb hb2
  obtain ⟨⟨k0, k1, k2, k3, k4⟩, _⟩ := B1.five
  obtain ⟨⟨l0, l1, l2, l3, l4⟩, _⟩ := B2.five
  have HV := Lib.hid hV
  have HV2 := Lib.hid hV2
  have HB1 := Lib.hid (B1.below' hb2)
  have HB2 := Lib.hid (B2.below' hb2)
  have HBW := Lib.hid hBW
  obtain ⟨r, hr⟩ : ∃ r, wideB 20 [x, y] = r := ⟨_, rfl⟩
  rw [hr] at WD
  have HWD := Lib.hid WD
  have HR := Lib.hid hr
  clear hV hV2 hb hb2 B1 B2 B3 hWD WD hBW hr
  cases r
  case true =>
    clear hx hy
    go_enter Tryz.func4, Tryz.ntmps4
    go_upto_region 1 with (fail)
    rw [HV.out]
    go_wp2_with fail
    rw [HV2.out]
    with_reducible refine HWD.out.mono ?_
    rintro _ w1 ⟨rfl, b1⟩
    go_wp2_with fail
    refine (S18 _).out.mono ?_
    rintro _ w2 ⟨rfl, b2⟩
    go_wp2_with fail
    go_ret
    exact ⟨rfl, bb HBW.out (bb b1 b2)⟩
  have hw : x.n ≤ 20 ∧ x.m ≤ 20 ∧ y.n ≤ 20 ∧ y.m ≤ 20 := by
    have h9 := HR.out
    unfold wideB at h9
    simp at h9
    omega
  obtain ⟨hx1, hx2, _, _, hxu, _⟩ := hx
  obtain ⟨hy1, hy2, _⟩ := hy
  obtain ⟨b, hbu, hblt⟩ : ∃ b : Nat, x.u = b ∧ b < 18446744073709551616 := by
    have h9 := U_of_wf hxu
    unfold U at h9
    exact ⟨x.u.toNat, by omega, by omega⟩
  obtain ⟨s, A, n, c, D, m, d, u, f⟩ := x
  obtain ⟨s', A', n', c', D', m', d', u', f'⟩ := y
  simp only at *
  subst hbu
  obtain ⟨hw1, hw2, hw3, hw4⟩ := hw
  have N1 := fun w => Lib.hid (bk_new_nil w (m := 0) (by omega) (by omega))
  have SA : ∀ w, Hid (Calls Tryz.prog 23 #[.agg SV.zero.agg, .agg SV.zero.agg] w (RetBl true w)) := fun w => Lib.hid (by
    have h := rf_same18 (w := w) (x := SV.zero) (y := SV.zero) (Sl.nil w none 0) (Sl.nil w none 0) (Sl.nil w none 0) (Sl.nil w none 0) (Nat.zero_le _) (Nat.zero_le _) (Nat.zero_le _) (Nat.zero_le _)
    rw [decide_eq_true ⟨rfl, rfl, rfl, rfl, rfl⟩] at h
    exact h)
  simp only [SV.agg, SV.zero] at SA
  go_enter Tryz.func4, Tryz.ntmps4
  go_upto_region 1 with (fail)
  rw [HV.out]
  go_wp2_with fail
  rw [HV2.out]
  with_reducible refine HWD.out.mono ?_
  rintro _ w1 ⟨rfl, b1⟩
  clear k0 k1 k2 k3 k4 l0 l1 l2 l3 l4
  go_wp2_with fail
  refine (N1 w1).out.mono ?_
  rintro _ w2 ⟨g, rfl, hbk, hg, b2⟩
  have HFA := Lib.hid (bk_fail hbk 7)
  have HFAR := Lib.hid (show Below w1.heap.size w1 w2 ∧ w1.heap.size ≤ w2.heap.size ∧ ∀ z ∈ [g], w1.heap.size ≤ z from ⟨b2, b2.size, by simpa using hg⟩)
  have HB12 := Lib.hid b1
  clear hbk b1 b2 hg N1
  go_wp2_with fail
  refine HFA.out.mono ?_
  rintro _ w3 ⟨rfl, F3, hk3, ho3, _, hf3⟩
  replace hk3 : Bk w3 F3 g { PB.new 0 [] with err := 7 } := hk3
  have HFAR3 := Lib.hid (step_far HFAR.out ho3 hf3)
  have HFA2 := Lib.hid (bk_fail hk3 8)
  clear hk3 ho3 hf3 HFAR HFA
  go_wp2_with fail
  refine HFA2.out.mono ?_
  rintro _ w4 ⟨rfl, F4, hk4, ho4, _, hf4⟩
  replace hk4 : Bk w4 F4 g { PB.new 0 [] with err := 7 } := hk4
  have HB14 := Lib.hid ((step_far HFAR3.out ho4 hf4).1)
  clear ho4 hf4 HFAR3 HFA2
  have ER : Hid (Calls Tryz.prog 14 #[.pointer (some ⟨g, 0, none⟩)] w4 (fun e w' => e = .returned (.int .i64 7) ∧ w4 = w')) := Lib.hid (bk_err hk4)
  have NU := Lib.hid (bk_num_err (p := 1) (q := 2) hk4 (by decide))
  have HK4 := Lib.hid hk4
  clear hk4
  go_wp2_with fail
  refine ER.out.mono ?_
  rintro _ _ ⟨rfl, rfl⟩
  go_wp2_with fail
  refine NU.out.mono ?_
  rintro _ w5 ⟨rfl, b5⟩
  go_wp2_with fail
  refine (SA w5).out.mono ?_
  rintro _ w6 ⟨rfl, b6⟩
  have HB26 := Lib.hid (show Below V2.heap.size V2 w6 from bb (bb HB12.out HB14.out) (bb b5 b6))
  obtain ⟨⟨k0, k1, k2, k3, k4⟩, _⟩ := (HB1.out.below' HB26.out).five
  obtain ⟨⟨l0, l1, l2, l3, l4⟩, _⟩ := (HB2.out.below' HB26.out).five
  have LE := Lib.hid (bk_less_err (x := ⟨s, A, n, c, D, m, d, b, f⟩) (y := ⟨s', A', n', c', D', m', d', u', f'⟩) (HK4.out.below (bb b5 b6)) (by decide))
  simp only [SV.agg] at LE
  go_wp2_with fail
  refine LE.out.mono ?_
  rintro _ w7 ⟨rfl, b7⟩
  have OP : Hid (Calls Tryz.prog 15 #[.pointer (some ⟨g, 0, none⟩)] w7 (RetI 0 w7)) := Lib.hid (bk_ops (HK4.out.below (bb (bb b5 b6) b7)))
  go_wp2_with fail
  refine OP.out.mono ?_
  rintro _ w8 ⟨rfl, b8⟩
  have hB8 : Below V2.heap.size V2 w8 := bb HB26.out (bb b7 b8)
  have hb8 : Below w.heap.size w w8 := bb HBW.out hB8
  have HW8 := Lib.hid hb8
  have HS := Lib.hid (fun (w' : World) (h9 : Below w8.heap.size w8 w') => (show (w'.cell? ⟨w.heap.size, 0, none⟩ = some (.bool s) ∧ w'.cell? ⟨w.heap.size, 1, none⟩ = some (.slice A n c) ∧ w'.cell? ⟨w.heap.size, 2, none⟩ = some (.slice D m d) ∧ w'.cell? ⟨w.heap.size, 3, none⟩ = some (.int .u64 b) ∧ w'.cell? ⟨w.heap.size, 4, none⟩ = some (.int .i64 f)) ∧
      (w'.cell? ⟨w.heap.size + 1, 0, none⟩ = some (.bool s') ∧ w'.cell? ⟨w.heap.size + 1, 1, none⟩ = some (.slice A' n' c') ∧ w'.cell? ⟨w.heap.size + 1, 2, none⟩ = some (.slice D' m' d') ∧ w'.cell? ⟨w.heap.size + 1, 3, none⟩ = some (.int .u64 u') ∧ w'.cell? ⟨w.heap.size + 1, 4, none⟩ = some (.int .i64 f')) from
    ⟨((HB1.out.below' hB8).below' h9).five.1, ((HB2.out.below' hB8).below' h9).five.1⟩))
  have c1 := fun (w' : World) (h9 : Below w8.heap.size w8 w') => hx1.below (bb hb8 h9)
  have c2 := fun (w' : World) (h9 : Below w8.heap.size w8 w') => hx2.below (bb hb8 h9)
  have c3 := fun (w' : World) (h9 : Below w8.heap.size w8 w') => hy1.below (bb hb8 h9)
  have c4 := fun (w' : World) (h9 : Below w8.heap.size w8 w') => hy2.below (bb hb8 h9)
  have K1 := fun (w' : World) (h9 : Below w8.heap.size w8 w') => bk_same18 (x := ⟨s, A, n, c, D, m, d, b, f⟩) (y := ⟨s', A', n', c', D', m', d', u', f'⟩) (c1 w' h9) (c2 w' h9) (c3 w' h9) (c4 w' h9) (by simp only; omega) (by simp only; omega) (by simp only; omega) (by simp only; omega)
  have K2 := fun (w' : World) (h9 : Below w8.heap.size w8 w') => rf_same18 (x := ⟨s, A, n, c, D, m, d, b, f⟩) (y := ⟨s', A', n', c', D', m', d', u', f'⟩) (c1 w' h9) (c2 w' h9) (c3 w' h9) (c4 w' h9) (by simp only; omega) (by simp only; omega) (by simp only; omega) (by simp only; omega)
  have K3 := fun (w' : World) (h9 : Below w8.heap.size w8 w') => bk_fits (x := ⟨s, A, n, c, D, m, d, b, f⟩) (c1 w' h9) (c2 w' h9) (by simp only; omega) (by simp only; omega)
  have K4 := fun (w' : World) (h9 : Below w8.heap.size w8 w') => rf_fits18 (x := ⟨s, A, n, c, D, m, d, b, f⟩) (c1 w' h9) (c2 w' h9) (by simp only; omega) (by simp only; omega)
  have K5 := fun (w' : World) (h9 : Below w8.heap.size w8 w') => bk_copyV (x := ⟨s, A, n, c, D, m, d, b, f⟩) (c1 w' h9) (c2 w' h9) (by simp only; omega) (by simp only; omega)
  have K6 := fun (w' : World) (h9 : Below w8.heap.size w8 w') => bk_right (s := s) (m := mode) (f := f) (c1 w' h9) (c2 w' h9) (by omega) (by omega) hblt
  have K7 := fun (w' : World) (h9 : Below w8.heap.size w8 w') => rf_right18 (s := s) (m := mode) (f := f) (c1 w' h9) (c2 w' h9) (by omega) (by omega) hblt
  have K8 : ∀ (w' : World) (h9 : Below w8.heap.size w8 w') (A1 : Option Addr) (n1 c1 : Nat) (A2 : Option Addr) (n2 c2 : Nat), Sl w' A1 n1 c1 xs → Sl w' A2 n2 c2 ys → Calls Tryz.prog 23 #[.agg #[.bool s, .slice A1 n1 c1, .slice A2 n2 c2, .int .u64 b, .int .i64 f], .agg #[.bool s, .slice A n c, .slice D m d, .int .u64 b, .int .i64 f]] w' (RetBl true w') := fun w' h9 A1 n1 e1 A2 n2 e2 t1 t2 => by
    have e3 : n1 = n := by have g1 := t1.len; have g2 := (c1 w' h9).len; omega
    have e4 : n2 = m := by have g1 := t2.len; have g2 := (c2 w' h9).len; omega
    have h := rf_same18 (x := ⟨s, A1, n1, e1, A2, n2, e2, b, f⟩) (y := ⟨s, A, n, c, D, m, d, b, f⟩) t1 t2 (c1 w' h9) (c2 w' h9) (by simp only; omega) (by simp only; omega) (by simp only; omega) (by simp only; omega)
    rw [decide_eq_true ⟨rfl, rfl, rfl, rfl, rfl⟩] at h
    exact h
  simp only [SV.agg, RetCopy] at K1 K2 K3 K4 K5
  generalize decide ((b : Int) = u' ∧ f = f' ∧ s = s' ∧ xs = us ∧ ys = zs) = r1 at *
  generalize fitB xs ys = r2 at *
  generalize rgtB mode s xs ys b f = r3 at *
  have HK1 := Lib.hid K1
  have HK2 := Lib.hid K2
  have HK3 := Lib.hid K3
  have HK4 := Lib.hid K4
  have HK5 := Lib.hid K5
  have HK6 := Lib.hid K6
  have HK7 := Lib.hid K7
  have HK8 := Lib.hid K8
  clear K1 K2 K3 K4 K5 K6 K7 K8 c1 c2 c3 c4 hx1 hx2 hy1 hy2 k0 k1 k2 k3 k4 l0 l1 l2 l3 l4 hw1 hw2 hw3 hw4 hblt hxu b5 b6 b7 b8 hB8 hb8 HB26 LE OP NU ER HB14 HB12 HB1 HB2 HV HV2 HBW HWD HR SA
  go_wp2_with fail
  obtain ⟨⟨k0, k1, k2, k3, k4⟩, l0, l1, l2, l3, l4⟩ := HS.out _ (Below.refl _ w8)
  go_region_held3 (fun w' => (w'.cell? ⟨w.heap.size, 0, none⟩ = some (.bool s) ∧ w'.cell? ⟨w.heap.size, 1, none⟩ = some (.slice A n c) ∧ w'.cell? ⟨w.heap.size, 2, none⟩ = some (.slice D m d) ∧ w'.cell? ⟨w.heap.size, 3, none⟩ = some (.int .u64 b) ∧ w'.cell? ⟨w.heap.size, 4, none⟩ = some (.int .i64 f)) ∧
      (w'.cell? ⟨w.heap.size + 1, 0, none⟩ = some (.bool s') ∧ w'.cell? ⟨w.heap.size + 1, 1, none⟩ = some (.slice A' n' c') ∧ w'.cell? ⟨w.heap.size + 1, 2, none⟩ = some (.slice D' m' d') ∧ w'.cell? ⟨w.heap.size + 1, 3, none⟩ = some (.int .u64 u') ∧ w'.cell? ⟨w.heap.size + 1, 4, none⟩ = some (.int .i64 f'))) (first | exact HS.out _ (Below.refl _ w8).drew | exact HS.out _ xB | fail)
    (first
      | (go_at_call 26; (with_reducible refine (HK1.out _ ?hq).mono ?_); (case hq => first | exact (Below.refl _ w8).drew | exact xB); rintro _ v ⟨rfl, h9⟩; have xB : Below w8.heap.size w8 v := (by first | exact Below.undrew h9 | exact bb xB h9))
      | (go_at_call 23; (with_reducible refine (HK2.out _ ?hq).mono ?_); (case hq => first | exact (Below.refl _ w8).drew | exact xB); rintro _ v ⟨rfl, h9⟩; have xB : Below w8.heap.size w8 v := (by first | exact Below.undrew h9 | exact bb xB h9))
      | (go_at_call 27; (with_reducible refine (HK3.out _ ?hq).mono ?_); (case hq => first | exact (Below.refl _ w8).drew | exact xB); rintro _ v ⟨rfl, h9⟩; have xB : Below w8.heap.size w8 v := (by first | exact Below.undrew h9 | exact bb xB h9))
      | (go_at_call 28; (with_reducible refine (HK4.out _ ?hq).mono ?_); (case hq => first | exact (Below.refl _ w8).drew | exact xB); rintro _ v ⟨rfl, h9⟩; have xB : Below w8.heap.size w8 v := (by first | exact Below.undrew h9 | exact bb xB h9))
      | (go_at_call 29; (with_reducible refine (HK5.out _ ?hq).mono ?_); (case hq => first | exact (Below.refl _ w8).drew | exact xB); rintro _ v ⟨A1, n1, e1, A2, n2, e2, rfl, t1, t2, h9⟩; have xB : Below w8.heap.size w8 v := (by first | exact Below.undrew h9 | exact bb xB h9))
      | (go_at_call 23; (with_reducible refine (HK8.out _ xB _ _ _ _ _ _ t1 t2).mono ?_); rintro _ v ⟨rfl, h9⟩; have xB : Below w8.heap.size w8 v := (by first | exact Below.undrew h9 | exact bb xB h9))
      | (go_at_call 30; (with_reducible refine (HK6.out _ ?hq).mono ?_); (case hq => first | exact (Below.refl _ w8).drew | exact xB); rintro _ v ⟨rfl, h9⟩; have xB : Below w8.heap.size w8 v := (by first | exact Below.undrew h9 | exact bb xB h9))
      | (go_at_call 31; (with_reducible refine (HK7.out _ ?hq).mono ?_); (case hq => first | exact (Below.refl _ w8).drew | exact xB); rintro _ v ⟨rfl, h9⟩; have xB : Below w8.heap.size w8 v := (by first | exact Below.undrew h9 | exact bb xB h9))
      | (go_at_call 9; (with_reducible refine (S18 _).out.mono ?_); rintro _ v ⟨rfl, h9⟩; have xB : Below w8.heap.size w8 v := (by first | exact Below.undrew h9 | exact bb xB h9))
      | fail)
  all_goals
    go_wp2_with fail
    go_ret
    exact ⟨rfl, bb HW8.out xB⟩

end Go.Proofs.YthpbaaanbimapaaGreatDoor
