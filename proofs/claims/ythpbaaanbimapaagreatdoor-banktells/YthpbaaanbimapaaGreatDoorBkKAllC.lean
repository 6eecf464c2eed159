/-
  Whether two scalars are the same, by the bank; whether a number is none. Conditions: as each lemma says.
-/
import Derived.Test.YthpbaaanbimapaaGreatDoorBkCAllC
import Derived.Test.YthpbaaanbimapaaGreatDoorNatShlAllC
namespace Go.Proofs.YthpbaaanbimapaaGreatDoor
set_option maxRecDepth 100000
open Go.RowKit
set_option linter.unusedVariables false
set_option linter.unusedSimpArgs false

/-- operate where the operation has a value -/
def RetStep (p : PV) (w : World) (F : List Nat) (g : Nat) (b : PB) (e : Ending) (w' : World) : Prop := ∃ x : SV, e = .returned (.agg x.agg) ∧ x.is w' p ∧ BkStep w F g b w'
set_option maxRecDepth 100000 in
set_option maxHeartbeats 4000000 in
theorem bk_operate0 {w : World} {F : List Nat} {g : Nat} {b : PB} {op a c : Int} {q : SV} {x y : SV} {Z : Rat} (h : Bk w F g b) (he : b.err = 0) (hm : b.mode = 0) (ho : b.ops < 1000000000)
    (K : ∀ w1, Below w.heap.size w w1 → Calls Tryz.prog 170 #[.int .i64 op, .agg #[.bool x.s, .slice x.A x.n x.c, .slice x.D x.m x.d], .agg #[.bool y.s, .slice y.A y.n y.c, .slice y.D y.m y.d]] w1 (RetQE Z 0 w1)) :
    Calls Tryz.prog 104 #[.pointer (some ⟨g, 0, none⟩), .agg #[.int .i64 op, .int .i64 a, .int .i64 c, .bool q.s, .slice q.A q.n q.c, .slice q.D q.m q.d], .agg x.agg, .agg y.agg] w (RetStep ⟨some Z, 0, 0⟩ w F g { b with ops := b.ops + 1 }) := by
  obtain ⟨V0, hW0, B0, C0, D0, hb0, hs0⟩ := boxesV3 80 53 53 w #[.int .i64 op, .int .i64 a, .int .i64 c, .bool q.s, .slice q.A q.n q.c, .slice q.D q.m q.d] x.agg y.agg
  obtain ⟨V1, hW1, R1, hb1⟩ := box0 53 V0 SV.zero.agg
  obtain ⟨V, hW, B3, hb2⟩ := box0 53 V1 SV.zero.agg
  have hs1 : V1.heap.size = w.heap.size + 1 + 1 + 1 + 1 := by rw [← hW1, World.size_alloc, hs0]
  have hs2 : V.heap.size = w.heap.size + 1 + 1 + 1 + 1 + 1 := by rw [← hW, World.size_alloc, hs1]
  have hb01 := bb hb0 hb1
  have hb := bb hb01 hb2
  rw [hs0] at R1
  rw [hs1] at B3
  rw [← hW0] at hW1
  replace R1 := R1.below' hb2
  replace B0 := B0.below' (bb hb1 hb2)
  replace C0 := C0.below' (bb hb1 hb2)
  replace D0 := D0.below' (bb hb1 hb2)
  obtain ⟨s, A, n, c', D, m, d, u, f⟩ := x
  obtain ⟨t, A', n', c'', D', m', d', u', f'⟩ := y
  simp only [SV.agg, SV.zero] at hW1 hW R1 B3 B0 C0 D0 K ⊢
  have E := bk_err (h.below hb01)
  rw [he] at E
  have hF := h.lt
  have hnF : ∀ x, w.heap.size ≤ x → x ∉ F := fun x hx e => by have := hF x e; omega
  have hg : g < w.heap.size := by obtain ⟨va, vp, vm, ps, hA⟩ := h; exact hA.box.lt
  have hV := h.below hb
  obtain ⟨va, vp, vm, ps, hA⟩ := hV
  have j0 := hA.cells.1
  rw [hm] at j0
  have KV := K V hb
  obtain ⟨⟨x0, x1, x2, x3, x4⟩, _⟩ := C0.five
  obtain ⟨⟨y0, y1, y2, y3, y4⟩, _⟩ := D0.five
  have z0 := B0.six.1.1
  have HH := Lib.hid h
  have HKV := Lib.hid KV
  have HE := Lib.hid E
  have HW1 := Lib.hid hW1
  have HW := Lib.hid hW
  have HR1 := Lib.hid R1
  have HB3 := Lib.hid B3
  clear K KV E hW0 hW1 hW B0 C0 D0 R1 B3 h hA
  go_enter Tryz.func104, Tryz.ntmps104
  go_wp2_with fail
  rw [HW1.out]
  with_reducible refine HE.out.mono ?_
  rintro _ _ ⟨rfl, rfl⟩
  go_upto_region 4 with (fail)
  rw [HW.out]
  go_wp2_with fail
  with_reducible refine HKV.out.mono ?_
  rintro _ w3 ⟨s3, A3, n3, c3, D3, m3, d3, rfl, q3, b3⟩
  have C3 := HB3.out.below' b3
  have C1 := HR1.out.below' b3
  obtain ⟨⟨r0, r1, r2, r3, r4⟩, f0, f1, f2, f3, f4⟩ := C3.five
  have HC3 := Lib.hid C3
  have HC1 := Lib.hid C1
  have HQ := Lib.hid q3
  clear C3 C1 q3
  go_upto_region 14 with (fail)
  obtain ⟨W5, hW5⟩ : ∃ W, put3 w3 (w.heap.size + 1 + 1 + 1 + 1) (.bool s3) (.slice A3 n3 c3) (.slice D3 m3 d3) = W := ⟨_, rfl⟩
  have E3 : Box 53 W5 (w.heap.size + 1 + 1 + 1 + 1) #[.bool s3, .slice A3 n3 c3, .slice D3 m3 d3, .int .u64 0, .int .i64 0] := by rw [← hW5]; exact box_setI (box_setI (box_setI HC3.out 0 _) 1 _) 2 _
  have E1 : Box 53 W5 (w.heap.size + 1 + 1 + 1) #[.bool false, .slice none 0 0, .slice none 0 0, .int .u64 0, .int .i64 0] := by rw [← hW5]; exact HC1.out.put3 (by omega) _ _ _
  have y5 : Below w.heap.size w W5 := by rw [← hW5]; exact below_put3 (bb hb b3) (by omega) (Nat.le_refl _) _ _ _
  have Q5 : Q W5 s3 A3 n3 c3 D3 m3 d3 Z := by rw [← hW5]; exact HQ.out.keep5 (keep_put3 _ _ _ _ _) (nz_five HC3.out)
  unfold put3 at hW5
  (try rw [hW5])
  have S5 : BkS w (w.heap.size + 1 + 1 + 1 + 1 + 1) F g b W5 := ⟨F, HH.out.below y5, Only.of_below F y5, WK.below y5, fun x hx => .inl hx⟩
  obtain ⟨va5, vp5, vm5, ps5, hA5⟩ := HH.out.below y5
  have i7 := hA5.box.cell 7
  have fg7 := hA5.box.free 7
  replace i7 : W5.cell? ⟨g, 7, none⟩ = some (.int .i64 b.ops) := i7
  have HS5 := Lib.hid S5
  have HE1 := Lib.hid E1
  have HE3 := Lib.hid E3
  have HQ5 := Lib.hid Q5
  clear hW5 S5 E1 E3 Q5 hA5 r0 r1 r2 r3 r4 f0 f1 f2 f3 f4 HC3 HC1 HQ y5
  go_upto_region 16 with (fail)
  obtain ⟨W6, hW6⟩ : ∃ W, W5.setCell ⟨g, 7, none⟩ (.int .i64 ((b.ops : Int) + 1)) = W := ⟨_, rfl⟩
  have G3 : Box 53 W6 (w.heap.size + 1 + 1 + 1 + 1) #[.bool s3, .slice A3 n3 c3, .slice D3 m3 d3, .int .u64 0, .int .i64 0] := by rw [← hW6]; exact Box.setOther HE3.out (by omega) 7 _
  have G1 : Box 53 W6 (w.heap.size + 1 + 1 + 1) #[.bool false, .slice none 0 0, .slice none 0 0, .int .u64 0, .int .i64 0] := by rw [← hW6]; exact Box.setOther HE1.out (by omega) 7 _
  have S6 : BkS w (w.heap.size + 1 + 1 + 1 + 1 + 1) F g { b with ops := b.ops + 1 } W6 := by
    rw [← hW6]
    exact HS5.out.set (by omega) _ (fun va vp vm => by unfold bkCells; simp) rfl rfl rfl rfl
  have Q6 : Q W6 s3 A3 n3 c3 D3 m3 d3 Z := by
    rw [← hW6]
    obtain ⟨F5, ⟨va5, vp5, vm5, ps5, hA5⟩, _⟩ := HS5.out
    exact HQ5.out.wk (wk_set hA5.box (bkCells_noW (ownL_noW _ hA5.ra) (ownL_noW _ hA5.rp) (ownL_noW _ hA5.rm)) _)
  (try rw [hW6])
  obtain ⟨⟨r0, r1, r2, r3, r4⟩, _⟩ := G3.five
  have R9 := bk_result_ok (w := W6) (p := some ⟨g, 0, none⟩) ⟨s3, A3, n3, c3, D3, m3, d3, 0, 0⟩
  simp only [SV.agg] at R9
  have HR9 := Lib.hid R9
  have HS6 := Lib.hid S6
  have HD1 := Lib.hid G1
  have HQ6 := Lib.hid Q6
  clear hW6 S6 G1 G3 Q6 R9 HS5 HE1 HE3 HQ5 i7 fg7
  go_wp2_with fail
  with_reducible refine HR9.out.mono ?_
  rintro _ w6 ⟨rfl, b6⟩
  have E2 := HD1.out.below' b6
  have HE2 := Lib.hid E2
  obtain ⟨⟨r0, r1, r2, r3, r4⟩, f0, f1, f2, f3, f4⟩ := E2.five
  clear E2
  go_wp2_with fail
  refine bodyPost_ret (v := .agg #[.bool s3, .slice A3 n3 c3, .slice D3 m3 d3, .int .u64 0, .int .i64 0]) (by simp [results, Tryz.results104, go_sem, r0, r1, r2, r3, r4]) rfl ?_
  exact ⟨⟨s3, A3, n3, c3, D3, m3, d3, 0, 0⟩, rfl, ⟨rfl, rfl, (HQ6.out.below b6).keep5 (keep_put5 _ _ _ _ _ _ _) (nz_five HE2.out)⟩, ((HS6.out.below b6).keep (keep_put5 w6 _ _ _ _ _ _) (by omega) (by omega) (hnF _ (by omega)) (nz_five HE2.out)).step (by omega)⟩

end Go.Proofs.YthpbaaanbimapaaGreatDoor

namespace Go.Proofs.YthpbaaanbimapaaGreatDoor
set_option maxRecDepth 100000
open Go.RowKit
set_option linter.unusedVariables false
set_option linter.unusedSimpArgs false

theorem bk_upTo (i n : Int) (w : World) : Calls Tryz.prog 105 #[.int .i64 i, .int .i64 n] w (fun r w' => r = .returned (.bool (decide (0 ≤ i ∧ i ≤ n))) ∧ w = w') := by
  by_cases h1 : 0 ≤ i
  · by_cases h2 : i ≤ n
    · rw [decide_eq_true ⟨h1, h2⟩]
      go_enter Tryz.func105, Tryz.ntmps105
      go_wp2_with fail
      go_ret
      exact ⟨rfl, rfl⟩
    · rw [decide_eq_false (fun h => h2 h.2)]
      go_enter Tryz.func105, Tryz.ntmps105
      go_wp2_with fail
      go_ret
      exact ⟨rfl, rfl⟩
  · rw [decide_eq_false (fun h => h1 h.1)]
    go_enter Tryz.func105, Tryz.ntmps105
    go_wp2_with fail
    go_ret
    exact ⟨rfl, rfl⟩
set_option maxHeartbeats 2000000 in
theorem bk_find {w : World} {F : List Nat} {g : Nat} {b : PB} {x y : SV} (h : Bk w F g b) : Calls Tryz.prog 159 #[.pointer (some ⟨g, 0, none⟩), .agg x.agg, .agg y.agg] w (RetI (if b.wrote x.f = true ∧ b.wrote y.f = true then 0 else 1) w) := by
  obtain ⟨V, hW, B1, B2, hb, hs⟩ := boxesV 53 53 w x.agg y.agg
  obtain ⟨va, vp, vm, ps, hA⟩ := h.below hb
  have hpl : ps.length = b.prog.length := by rw [← hA.pi, List.length_map]
  obtain ⟨A_p, c_p, rfl, _⟩ := hA.rp.form
  have j2 := hA.cells.2.2.1
  rw [hpl] at j2
  have hL := hA.pl
  obtain ⟨s, A, n, c, D, m, d, u, f⟩ := x
  obtain ⟨s', A', n', c', D', m', d', u', f'⟩ := y
  simp only [SV.agg] at hW B1 B2 ⊢
  have k4 := B1.five.1.2.2.2.2
  have l4 := B2.five.1.2.2.2.2
  have HW := Lib.hid hW
  have U := fun (i : Int) (w1 : World) => bk_upTo i ((b.prog.length : Int) - 1) w1
  have e1 : decide (0 ≤ f ∧ f ≤ (b.prog.length : Int) - 1) = b.wrote f := by unfold PB.wrote; exact decide_eq_decide.2 (by omega)
  have e2 : decide (0 ≤ f' ∧ f' ≤ (b.prog.length : Int) - 1) = b.wrote f' := by unfold PB.wrote; exact decide_eq_decide.2 (by omega)
  have U1 := fun w1 => U f w1
  have U2 := fun w1 => U f' w1
  rw [e1] at U1
  rw [e2] at U2
  generalize b.wrote f = p1 at *
  generalize b.wrote f' = p2 at *
  generalize b.prog.length = L at *
  have H1 := Lib.hid U1
  have H2 := Lib.hid U2
  clear U U1 U2 e1 e2 hW B1 B2 hA h hpl
  cases p1
  · rw [if_neg (fun h => by cases h.1)]
    go_enter Tryz.func159, Tryz.ntmps159
    go_upto_region 1 with (fail)
    rw [HW.out]
    go_wp2_with fail
    with_reducible refine (H1.out _).mono ?_
    rintro _ _ ⟨rfl, rfl⟩
    go_wp2_with fail
    go_ret
    exact ⟨rfl, hb⟩
  · cases p2
    · rw [if_neg (fun h => by cases h.2)]
      go_enter Tryz.func159, Tryz.ntmps159
      go_upto_region 1 with (fail)
      rw [HW.out]
      go_wp2_with fail
      with_reducible refine (H1.out _).mono ?_
      rintro _ _ ⟨rfl, rfl⟩
      go_wp2_with fail
      with_reducible refine (H2.out _).mono ?_
      rintro _ _ ⟨rfl, rfl⟩
      go_wp2_with fail
      go_ret
      exact ⟨rfl, hb⟩
    · rw [if_pos ⟨rfl, rfl⟩]
      go_enter Tryz.func159, Tryz.ntmps159
      go_upto_region 1 with (fail)
      rw [HW.out]
      go_wp2_with fail
      with_reducible refine (H1.out _).mono ?_
      rintro _ _ ⟨rfl, rfl⟩
      go_wp2_with fail
      with_reducible refine (H2.out _).mono ?_
      rintro _ _ ⟨rfl, rfl⟩
      go_wp2_with fail
      go_ret
      exact ⟨rfl, hb⟩

set_option maxRecDepth 100000 in
set_option maxHeartbeats 4000000 in
theorem bk_operate2 {w : World} {F : List Nat} {g : Nat} {b : PB} {op a c : Int} {x y : SV} (h : Bk w F g b) (he : b.err = 0) (hm : b.mode = 2) (hl : b.prog.length < 65536) (hx : b.wrote x.f = true) (hy : b.wrote y.f = true) (hop : I64 op) (ha : I64 a) (hc : I64 c) (ho : b.ops < 1000000000) :
    Calls Tryz.prog 104 #[.pointer (some ⟨g, 0, none⟩), .agg #[.int .i64 op, .int .i64 a, .int .i64 c, .bool false, .slice none 0 0, .slice none 0 0], .agg x.agg, .agg y.agg] w (RetStep ⟨none, 0, b.prog.length⟩ w F g { b with prog := b.prog ++ [⟨op, a, c, nilQ⟩], ops := b.ops + 1 }) := by
  obtain ⟨V0, hW0, B0, C0, D0, hb0, hs0⟩ := boxesV3 80 53 53 w #[.int .i64 op, .int .i64 a, .int .i64 c, .bool false, .slice none 0 0, .slice none 0 0] x.agg y.agg
  obtain ⟨V1, hW1, R1, hb1⟩ := box0 53 V0 SV.zero.agg
  obtain ⟨V, hW, B3, hb2⟩ := box0 53 V1 SV.zero.agg
  have hs1 : V1.heap.size = w.heap.size + 1 + 1 + 1 + 1 := by rw [← hW1, World.size_alloc, hs0]
  have hs2 : V.heap.size = w.heap.size + 1 + 1 + 1 + 1 + 1 := by rw [← hW, World.size_alloc, hs1]
  have hb01 := bb hb0 hb1
  have hb := bb hb01 hb2
  rw [hs0] at R1
  rw [hs1] at B3
  rw [← hW0] at hW1
  replace R1 := R1.below' hb2
  replace B0 := B0.below' (bb hb1 hb2)
  replace C0 := C0.below' (bb hb1 hb2)
  replace D0 := D0.below' (bb hb1 hb2)
  have FD := bk_find (x := x) (y := y) (h.below hb)
  rw [if_pos ⟨hx, hy⟩] at FD
  have WR := fun (w1 : World) (hb9 : Below w.heap.size w w1) => bk_write (op := op) (a := a) (c := c) (q := ⟨false, none, 0, 0, [], none, 0, 0, []⟩) (h.below hb9) (nilI_tight w1 hop ha hc) hl
  obtain ⟨s, A, n, c', D, m, d, u, f⟩ := x
  obtain ⟨t, A', n', c'', D', m', d', u', f'⟩ := y
  simp only [SV.agg, SV.zero] at hW1 hW R1 B3 B0 C0 D0 FD ⊢
  have E := bk_err (h.below hb01)
  rw [he] at E
  have hF := h.lt
  have hnF : ∀ x, w.heap.size ≤ x → x ∉ F := fun x hx e => by have := hF x e; omega
  have hg : g < w.heap.size := by obtain ⟨va, vp, vm, ps, hA⟩ := h; exact hA.box.lt
  have hV := h.below hb
  obtain ⟨va, vp, vm, ps, hA⟩ := hV
  have j0 := hA.cells.1
  rw [hm] at j0
  obtain ⟨⟨x0, x1, x2, x3, x4⟩, _⟩ := C0.five
  obtain ⟨⟨y0, y1, y2, y3, y4⟩, _⟩ := D0.five
  have z0 := B0.six.1.1
  have HH := Lib.hid h
  have HFD := Lib.hid FD
  have HWR := Lib.hid WR
  have HE := Lib.hid E
  have HW1 := Lib.hid hW1
  have HW := Lib.hid hW
  have HR1 := Lib.hid R1
  have HB3 := Lib.hid B3
  have HB0 := Lib.hid B0
  clear FD WR E hW0 hW1 hW B0 C0 D0 R1 B3 h hA
  go_enter Tryz.func104, Tryz.ntmps104
  go_wp2_with fail
  rw [HW1.out]
  with_reducible refine HE.out.mono ?_
  rintro _ _ ⟨rfl, rfl⟩
  go_upto_region 4 with (fail)
  rw [HW.out]
  go_wp2_with fail
  with_reducible refine HFD.out.mono ?_
  rintro _ w2 ⟨rfl, b2⟩
  obtain ⟨⟨z0, z1, z2, z3, z4, z5⟩, _⟩ := (HB0.out.below' b2).six
  go_wp2_with fail
  with_reducible refine (HWR.out _ (bb hb b2)).mono ?_
  rintro _ w3 ⟨rfl, st3⟩
  have C3 := st3.box (HB3.out.below' b2) (fun hx => by have := hF _ hx; omega)
  have C1 := st3.box (HR1.out.below' b2) (fun hx => by have := hF _ hx; omega)
  obtain ⟨⟨r0, r1, r2, r3, r4⟩, f0, f1, f2, f3, f4⟩ := C3.five
  have HC3 := Lib.hid C3
  have HC1 := Lib.hid C1
  have hs9 : w.heap.size + 1 + 1 + 1 + 1 + 1 ≤ w2.heap.size := by have := b2.size; omega
  have HST := Lib.hid (st3.s (bb hb b2))
  clear C3 C1 st3 z0 z1 z2 z3 z4 z5
  go_upto_region 14 with (fail)
  obtain ⟨W5, hW5⟩ : ∃ W, w3.setCell ⟨w.heap.size + 1 + 1 + 1 + 1, 4, none⟩ (.int .i64 (b.prog.length : Int)) = W := ⟨_, rfl⟩
  have E3 : Box 53 W5 (w.heap.size + 1 + 1 + 1 + 1) #[.bool false, .slice none 0 0, .slice none 0 0, .int .u64 0, .int .i64 b.prog.length] := by rw [← hW5]; exact box_setI HC3.out 4 _
  have E1 : Box 53 W5 (w.heap.size + 1 + 1 + 1) #[.bool false, .slice none 0 0, .slice none 0 0, .int .u64 0, .int .i64 0] := by rw [← hW5]; exact Box.setOther HC1.out (by omega) 4 _
  have S5 : BkS w w2.heap.size F g (b.wrote1 ⟨op, a, c, nilQ⟩) W5 := by rw [← hW5]; exact HST.out.keep ((Keep.refl _ w3).setCell 4 _) (by omega) (by omega) (hnF _ (by omega)) (nz_five HC3.out)
  (try rw [hW5])
  have S5' := S5
  obtain ⟨F5, ⟨va5, vp5, vm5, ps5, hA5⟩, _⟩ := S5'
  have i7 := hA5.box.cell 7
  have fg7 := hA5.box.free 7
  replace i7 : W5.cell? ⟨g, 7, none⟩ = some (.int .i64 b.ops) := i7
  have HS5 := Lib.hid S5
  have HE1 := Lib.hid E1
  have HE3 := Lib.hid E3
  clear hW5 S5 E1 E3 hA5 r0 r1 r2 r3 r4 f0 f1 f2 f3 f4 HC3 HC1 HST
  go_upto_region 16 with (fail)
  obtain ⟨W6, hW6⟩ : ∃ W, W5.setCell ⟨g, 7, none⟩ (.int .i64 ((b.ops : Int) + 1)) = W := ⟨_, rfl⟩
  have G3 : Box 53 W6 (w.heap.size + 1 + 1 + 1 + 1) #[.bool false, .slice none 0 0, .slice none 0 0, .int .u64 0, .int .i64 b.prog.length] := by rw [← hW6]; exact Box.setOther HE3.out (by omega) 7 _
  have G1 : Box 53 W6 (w.heap.size + 1 + 1 + 1) #[.bool false, .slice none 0 0, .slice none 0 0, .int .u64 0, .int .i64 0] := by rw [← hW6]; exact Box.setOther HE1.out (by omega) 7 _
  have S6 : BkS w w2.heap.size F g { b with prog := b.prog ++ [⟨op, a, c, nilQ⟩], ops := b.ops + 1 } W6 := by
    rw [← hW6]
    exact HS5.out.set (by omega) _ (fun va vp vm => by unfold bkCells PB.wrote1; simp) rfl rfl rfl rfl
  (try rw [hW6])
  obtain ⟨⟨r0, r1, r2, r3, r4⟩, _⟩ := G3.five
  have R9 := bk_result_ok (w := W6) (p := some ⟨g, 0, none⟩) ⟨false, none, 0, 0, none, 0, 0, 0, (b.prog.length : Int)⟩
  simp only [SV.agg] at R9
  have HR9 := Lib.hid R9
  have HS6 := Lib.hid S6
  have HD1 := Lib.hid G1
  clear hW6 S6 G1 G3 R9 HS5 HE1 HE3 i7 fg7
  go_wp2_with fail
  with_reducible refine HR9.out.mono ?_
  rintro _ w6 ⟨rfl, b6⟩
  have E2 := HD1.out.below' b6
  have HE2 := Lib.hid E2
  obtain ⟨⟨r0, r1, r2, r3, r4⟩, f0, f1, f2, f3, f4⟩ := E2.five
  clear E2
  go_wp2_with fail
  refine bodyPost_ret (v := .agg #[.bool false, .slice none 0 0, .slice none 0 0, .int .u64 0, .int .i64 b.prog.length]) (by simp [results, Tryz.results104, go_sem, r0, r1, r2, r3, r4]) rfl ?_
  exact ⟨⟨false, none, 0, 0, none, 0, 0, 0, (b.prog.length : Int)⟩, rfl, ⟨rfl, rfl, rfl, rfl, rfl, rfl, rfl, rfl, rfl⟩, ((HS6.out.below b6).keep (keep_put5 w6 _ _ _ _ _ _) (by omega) (by omega) (hnF _ (by omega)) (nz_five HE2.out)).step (by omega)⟩

end Go.Proofs.YthpbaaanbimapaaGreatDoor

namespace Go.Proofs.YthpbaaanbimapaaGreatDoor
set_option maxRecDepth 100000
open Go.RowKit
set_option linter.unusedVariables false
set_option linter.unusedSimpArgs false

set_option maxHeartbeats 2000000 in
theorem bk_two {w : World} {F : List Nat} {g : Nat} {b b' : PB} {p : PV} {x y : SV} {op : Int} (h : Bk w F g b)
    (K : ∀ w1, Below w.heap.size w w1 → Calls Tryz.prog 104 #[.pointer (some ⟨g, 0, none⟩), .agg #[.int .i64 op, .int .i64 x.f, .int .i64 y.f, .bool false, .slice none 0 0, .slice none 0 0], .agg x.agg, .agg y.agg] w1 (RetStep p w1 F g b')) :
    Calls Tryz.prog 62 #[.pointer (some ⟨g, 0, none⟩), .int .i64 op, .agg x.agg, .agg y.agg] w (RetStep p w F g b') := by
  obtain ⟨V, hW, B1, B2, Br, hb, hs⟩ := boxesV3 53 53 53 w x.agg y.agg SV.zero.agg
  have KV := K V hb
  have hF := h.lt
  obtain ⟨s, A, n, c', D, m, d, u, f⟩ := x
  obtain ⟨t, A', n', c'', D', m', d', u', f'⟩ := y
  simp only [SV.agg, SV.zero] at hW B1 B2 Br KV ⊢
  obtain ⟨⟨k0, k1, k2, k3, k4⟩, _⟩ := B1.five
  obtain ⟨⟨j0, j1, j2, j3, j4⟩, _⟩ := B2.five
  have HBr := Lib.hid Br
  have HW := Lib.hid hW
  have HK := Lib.hid KV
  clear hW B1 B2 Br KV K h
  go_enter Tryz.func62, Tryz.ntmps62
  go_upto_region 1 with (fail)
  rw [HW.out]
  go_wp2_with fail
  with_reducible refine HK.out.mono ?_
  rintro _ w1 ⟨⟨s3, A3, n3, c3, D3, m3, d3, u3, f3'⟩, rfl, his, st⟩
  have C := st.box HBr.out (fun hx => by have := hF _ hx; omega)
  have HC := Lib.hid C
  have HST := Lib.hid st
  have HIS := Lib.hid his
  obtain ⟨⟨r0, r1, r2, r3, r4⟩, f0, f1, f2, f3, f4⟩ := C.five
  clear C st his
  simp only [SV.agg]
  go_wp2_with fail
  refine bodyPost_ret (v := .agg #[.bool s3, .slice A3 n3 c3, .slice D3 m3 d3, .int .u64 u3, .int .i64 f3']) (by simp [results, Tryz.results62, go_sem, r0, r1, r2, r3, r4]) rfl ?_
  exact ⟨⟨s3, A3, n3, c3, D3, m3, d3, u3, f3'⟩, rfl, SV.is_wk HIS.out (wk_keep (keep_put5 _ _ _ _ _ _ _) (nz_zero5 HC.out)), HST.out.after hb (keep_put5 _ _ _ _ _ _ _) (by omega) (by omega) hF (nz_zero5 HC.out)⟩

set_option maxHeartbeats 2000000 in
theorem bk_add {w : World} {F : List Nat} {g : Nat} {b b' : PB} {p : PV} {x y : SV} (h : Bk w F g b)
    (K : ∀ w1, Below w.heap.size w w1 → Calls Tryz.prog 62 #[.pointer (some ⟨g, 0, none⟩), .int .i64 4, .agg x.agg, .agg y.agg] w1 (RetStep p w1 F g b')) :
    Calls Tryz.prog 32 #[.pointer (some ⟨g, 0, none⟩), .agg x.agg, .agg y.agg] w (RetStep p w F g b') := by
  obtain ⟨V, hW, B1, B2, Br, hb, hs⟩ := boxesV3 53 53 53 w x.agg y.agg SV.zero.agg
  have KV := K V hb
  have hF := h.lt
  obtain ⟨s, A, n, c', D, m, d, u, f⟩ := x
  obtain ⟨t, A', n', c'', D', m', d', u', f'⟩ := y
  simp only [SV.agg, SV.zero] at hW B1 B2 Br KV ⊢
  obtain ⟨⟨k0, k1, k2, k3, k4⟩, _⟩ := B1.five
  obtain ⟨⟨j0, j1, j2, j3, j4⟩, _⟩ := B2.five
  have HBr := Lib.hid Br
  have HW := Lib.hid hW
  have HK := Lib.hid KV
  clear hW B1 B2 Br KV K h
  go_enter Tryz.func32, Tryz.ntmps32
  go_upto_region 1 with (fail)
  rw [HW.out]
  go_wp2_with fail
  with_reducible refine HK.out.mono ?_
  rintro _ w1 ⟨⟨s3, A3, n3, c3, D3, m3, d3, u3, f3'⟩, rfl, his, st⟩
  have C := st.box HBr.out (fun hx => by have := hF _ hx; omega)
  have HC := Lib.hid C
  have HST := Lib.hid st
  have HIS := Lib.hid his
  obtain ⟨⟨r0, r1, r2, r3, r4⟩, f0, f1, f2, f3, f4⟩ := C.five
  clear C st his
  simp only [SV.agg]
  go_wp2_with fail
  refine bodyPost_ret (v := .agg #[.bool s3, .slice A3 n3 c3, .slice D3 m3 d3, .int .u64 u3, .int .i64 f3']) (by simp [results, Tryz.results32, go_sem, r0, r1, r2, r3, r4]) rfl ?_
  exact ⟨⟨s3, A3, n3, c3, D3, m3, d3, u3, f3'⟩, rfl, SV.is_wk HIS.out (wk_keep (keep_put5 _ _ _ _ _ _ _) (nz_zero5 HC.out)), HST.out.after hb (keep_put5 _ _ _ _ _ _ _) (by omega) (by omega) hF (nz_zero5 HC.out)⟩

set_option maxHeartbeats 2000000 in
theorem bk_mul {w : World} {F : List Nat} {g : Nat} {b b' : PB} {p : PV} {x y : SV} (h : Bk w F g b)
    (K : ∀ w1, Below w.heap.size w w1 → Calls Tryz.prog 62 #[.pointer (some ⟨g, 0, none⟩), .int .i64 6, .agg x.agg, .agg y.agg] w1 (RetStep p w1 F g b')) :
    Calls Tryz.prog 39 #[.pointer (some ⟨g, 0, none⟩), .agg x.agg, .agg y.agg] w (RetStep p w F g b') := by
  obtain ⟨V, hW, B1, B2, Br, hb, hs⟩ := boxesV3 53 53 53 w x.agg y.agg SV.zero.agg
  have KV := K V hb
  have hF := h.lt
  obtain ⟨s, A, n, c', D, m, d, u, f⟩ := x
  obtain ⟨t, A', n', c'', D', m', d', u', f'⟩ := y
  simp only [SV.agg, SV.zero] at hW B1 B2 Br KV ⊢
  obtain ⟨⟨k0, k1, k2, k3, k4⟩, _⟩ := B1.five
  obtain ⟨⟨j0, j1, j2, j3, j4⟩, _⟩ := B2.five
  have HBr := Lib.hid Br
  have HW := Lib.hid hW
  have HK := Lib.hid KV
  clear hW B1 B2 Br KV K h
  go_enter Tryz.func39, Tryz.ntmps39
  go_upto_region 1 with (fail)
  rw [HW.out]
  go_wp2_with fail
  with_reducible refine HK.out.mono ?_
  rintro _ w1 ⟨⟨s3, A3, n3, c3, D3, m3, d3, u3, f3'⟩, rfl, his, st⟩
  have C := st.box HBr.out (fun hx => by have := hF _ hx; omega)
  have HC := Lib.hid C
  have HST := Lib.hid st
  have HIS := Lib.hid his
  obtain ⟨⟨r0, r1, r2, r3, r4⟩, f0, f1, f2, f3, f4⟩ := C.five
  clear C st his
  simp only [SV.agg]
  go_wp2_with fail
  refine bodyPost_ret (v := .agg #[.bool s3, .slice A3 n3 c3, .slice D3 m3 d3, .int .u64 u3, .int .i64 f3']) (by simp [results, Tryz.results39, go_sem, r0, r1, r2, r3, r4]) rfl ?_
  exact ⟨⟨s3, A3, n3, c3, D3, m3, d3, u3, f3'⟩, rfl, SV.is_wk HIS.out (wk_keep (keep_put5 _ _ _ _ _ _ _) (nz_zero5 HC.out)), HST.out.after hb (keep_put5 _ _ _ _ _ _ _) (by omega) (by omega) hF (nz_zero5 HC.out)⟩

end Go.Proofs.YthpbaaanbimapaaGreatDoor

namespace Go.Proofs.YthpbaaanbimapaaGreatDoor
set_option maxRecDepth 100000
open Go.RowKit
set_option linter.unusedVariables false
set_option linter.unusedSimpArgs false

end Go.Proofs.YthpbaaanbimapaaGreatDoor

namespace Go.Proofs.YthpbaaanbimapaaGreatDoor
set_option maxRecDepth 100000
open Go.RowKit
set_option linter.unusedVariables false
set_option linter.unusedSimpArgs false

/-- a sign and two lists of words, as they lie -/
def RetRaw (s : Bool) (xs ys : List Int) (w : World) (e : Ending) (w' : World) : Prop := ∃ A n c A' n' c', e = .returned (.agg #[.bool s, .slice A n c, .slice A' n' c']) ∧ Sl w' A n c xs ∧ Sl w' A' n' c' ys ∧ Below w.heap.size w w' ∧ New w A ∧ New w A'
theorem retSlN_of {xs : List Int} {w w1 : World} {v : Value} (h : RetSl xs w (.returned v) w1) (hn : ∀ A n c, v = .slice A n c → New w A) : RetSlN xs w (.returned v) w1 := by
  obtain ⟨A, n, c, e, s, b⟩ := h
  injection e with e
  exact ⟨A, n, c, by rw [e], s, b, hn A n c e⟩
theorem bk_copied {w : World} {A : Option Addr} {n c : Nat} {xs : List Int} (h : Sl w A n c xs) (hn : n ≤ 1000000) :
    Calls Tryz.prog 81 #[.slice A n c] w (RetSlN xs w) := by
  obtain ⟨i0, hi, hz0, hz1, hz2⟩ := info_parts infoW
  have hlen := h.len
  by_cases h0 : n = 0
  · subst h0
    obtain rfl : xs = [] := List.eq_nil_of_length_eq_zero hlen.symm
    clear hlen h hn
    go_enter Tryz.func81, Tryz.ntmps81
    go_wp2_with (at_builtin; refine wpList_append_zero _ rfl _ _ 49 rfl 34 i0 Tryz.underlying49 hi A c rfl rfl ?_)
    go_ret
    exact ⟨none, 0, 0, rfl, Sl.nil _ _ _, Below.refl _ _, New.none_ _⟩
  · obtain ⟨b, off, rfl, hlt, hc⟩ := h.2 (by omega)
    have hu := h.us
    have hnews : ∀ (j : Nat) (u : Value), (vs xs)[j]? = some u → w.cell? ((⟨b, off, none⟩ : Addr).add j) = some u := by
      intro j u hj
      have hjl : j < xs.length := by
        rcases Nat.lt_or_ge j xs.length with h9 | h9
        · exact h9
        · rw [List.getElem?_eq_none (by rw [vs_length]; omega)] at hj; cases hj
      have e1 : (⟨b, off, none⟩ : Addr).add j = ⟨b, off + j, none⟩ := by
        unfold Addr.add; split
        · rename_i h9; rw [h9, Nat.add_zero]
        · rfl
      rw [e1, hc j (by omega)]
      unfold vs at hj
      rw [List.getElem?_map, List.getElem?_eq_getElem hjl] at hj
      rw [List.getD_eq_getElem?_getD, List.getElem?_eq_getElem hjl]
      exact hj
    have HN := Lib.hid hnews
    clear hnews hc
    go_enter Tryz.func81, Tryz.ntmps81
    go_wp2_with (at_builtin; refine wpList_append_own _ rfl _ _ 49 rfl w.heap.size 34 i0 (.int .u64 0) 1 8 Tryz.underlying49 hi hz0 hz1 hz2 rfl (by decide) _ _ _ rfl (World.ownsRow_nil _ _ _ _) ⟨b, off, none⟩ n c (vs xs) rfl ?c0 ?c1 ?c2 ?c3 ?c4 ?c5 ?_)
    case c0 => rw [vs_length]; omega
    case c1 => exact HN.out
    case c2 => intro u hu; unfold vs at hu; obtain ⟨z, _, rfl⟩ := List.mem_map.1 hu; rfl
    case c3 => unfold maxLen; omega
    case c4 => omega
    case c5 => exact Nat.le_refl _
    intro v' w1 hown hgrow _
    have hown2 : Own 34 w.heap.size w1 v' xs := hown
    have hb1 : Below w.heap.size w w1 := (Below.refl _ w).grown hgrow (Nat.le_refl _) (fun k e => by cases e)
    have HO := Lib.hid hown2
    have hnew : ∀ A n c, v' = .slice A n c → New w A := fun A n c e => by
      rcases hown.2 with ⟨h9, _⟩ | ⟨g9, cap9, cur9, h9, hB9, _⟩
      · rw [h9] at e; injection e with e; subst e; exact New.none_ _
      · rw [h9] at e; injection e with e; subst e; exact New.some_ hB9
    have HNW := Lib.hid hnew
    clear hown hown2 hgrow hnew
    go_wp2_with fail
    go_ret
    exact retSlN_of (retSl_own HO.out hu hb1) HNW.out


set_option maxRecDepth 100000 in
set_option maxHeartbeats 4000000 in
theorem bk_clone {w : World} {s : Bool} {A A' : Option Addr} {n n' c c' : Nat} {xs ys : List Int} (h : Sl w A n c xs) (h' : Sl w A' n' c' ys) (hn : n ≤ 1000000) (hn' : n' ≤ 1000000) :
    Calls Tryz.prog 47 #[.agg #[.bool s, .slice A n c, .slice A' n' c']] w (RetRaw s xs ys w) := by
  obtain ⟨V, hW, Ba, Br, hb0⟩ := boxes1 51 w #[.bool s, .slice A n c, .slice A' n' c'] #[.bool false, .slice none 0 0, .slice none 0 0]
  have C1 := fun w1 (hb : Below V.heap.size V w1) => bk_copied (h.below (bb hb0 hb)) (by omega)
  have C2 := fun w1 (hb : Below V.heap.size V w1) => bk_copied (h'.below (bb hb0 hb)) (by omega)
  have hS : ∀ w', Below V.heap.size V w' → w'.cell? ⟨w.heap.size, 0, none⟩ = some (.bool s) ∧ w'.cell? ⟨w.heap.size, 1, none⟩ = some (.slice A n c) ∧ w'.cell? ⟨w.heap.size, 2, none⟩ = some (.slice A' n' c') := fun w' hb => (Ba.below' hb).three.1
  have HC1 := Lib.hid C1
  have HC2 := Lib.hid C2
  have HS := Lib.hid hS
  have HBa := Lib.hid Ba
  have HBr := Lib.hid Br
  have HW := Lib.hid hW
  clear C1 C2 hS Ba Br hW h h'
  go_enter Tryz.func47, Tryz.ntmps47
  go_wp2_with fail
  rw [HW.out]
  obtain ⟨k0, k1, k2⟩ := HS.out _ (Below.refl _ V)
  go_region_held3 (fun w' => w'.cell? ⟨w.heap.size, 0, none⟩ = some (.bool s) ∧ w'.cell? ⟨w.heap.size, 1, none⟩ = some (.slice A n c) ∧ w'.cell? ⟨w.heap.size, 2, none⟩ = some (.slice A' n' c')) (first | exact HS.out _ (Below.refl _ V).drew | exact HS4.out | exact HS.out _ x2 | exact HS.out _ x1 | fail)
    (first
      | (go_at_call 81; (with_reducible refine (HC1.out _ ?hb1).mono ?_); (case hb1 => exact (Below.refl _ V).drew); rintro _ w1 ⟨A1, n1, c1, rfl, t1, b1, nw1⟩; have x1 : Below V.heap.size V w1 := Below.undrew b1)
      | (go_at_call 81; (with_reducible refine (HC2.out _ x1).mono ?_); rintro _ w2 ⟨A2, n2, c2, rfl, t2, b2, nw2⟩; have x2 : Below V.heap.size V w2 := bb x1 b2; have HS4 := Lib.hid ((HBa.out.below' x2).put3 (show w.heap.size ≠ w.heap.size + 1 by omega) (.bool s) (.slice A1 n1 c1) (.slice A2 n2 c2)).three.1; have B9 := HBr.out.below' x2; obtain ⟨⟨r0, r1, r2⟩, f0, f1, f2⟩ := B9.three))
  all_goals
    go_wp2_with fail
    refine bodyPost_ret (v := .agg #[.bool s, .slice A1 n1 c1, .slice A2 n2 c2]) (by simp [results, Tryz.results47, go_sem, r0, r1, r2]) rfl ?_
    have hB : IsBox 51 w2 (w.heap.size + 1) := ⟨_, _, _, _, _, _, _, B9⟩
    exact ⟨_, _, _, _, _, _, rfl, (t1.below b2).put3 hB, t2.put3 hB, below_put3 (bb hb0 x2) (by omega) (Nat.le_refl _) _ _ _, New.mono nw1 hb0.size, New.mono nw2 (Nat.le_trans hb0.size x1.size)⟩


set_option maxHeartbeats 2000000 in
theorem rf_same18 {w : World} {x y : SV} {xs ys us zs : List Int} (h1 : Sl w x.A x.n x.c xs) (h2 : Sl w x.D x.m x.d ys) (h3 : Sl w y.A y.n y.c us) (h4 : Sl w y.D y.m y.d zs) (l1 : x.n ≤ 1000000) (l2 : x.m ≤ 1000000) (l3 : y.n ≤ 1000000) (l4 : y.m ≤ 1000000) :
    Calls Tryz.prog 23 #[.agg x.agg, .agg y.agg] w (RetBl (decide (x.u = y.u ∧ x.f = y.f ∧ x.s = y.s ∧ xs = us ∧ ys = zs)) w) := by
  obtain ⟨V, hW, B1, B2, hb, hs⟩ := boxesV 53 53 w x.agg y.agg
  obtain ⟨s, A, n, c, D, m, d, u, f⟩ := x
  obtain ⟨t, A', n', c', D', m', d', u', f'⟩ := y
  have K := ref_same (s := s) (t := t) (h1.below hb) (h2.below hb) (h3.below hb) (h4.below hb) l1 l2 l3 l4
  simp only [SV.agg] at hW B1 B2 K ⊢
  obtain ⟨⟨k0, k1, k2, k3, k4⟩, _⟩ := B1.five
  obtain ⟨⟨j0, j1, j2, j3, j4⟩, _⟩ := B2.five
  have HW := Lib.hid hW
  by_cases e1 : u = u'
  case neg =>
    rw [decide_eq_false (fun h => e1 h.1)]
    have d1 : (u == u') = false := by simpa using e1
    clear K hW B1 B2 h1 h2 h3 h4
    go_enter Tryz.func23, Tryz.ntmps23
    go_upto_region 1 with (fail)
    rw [HW.out]
    go_wp2_with fail
    go_ret
    exact ⟨rfl, hb⟩
  by_cases e2 : f = f'
  case neg =>
    rw [decide_eq_false (fun h => e2 h.2.1)]
    have d2 : (f == f') = false := by simpa using e2
    subst e1
    clear K hW B1 B2 h1 h2 h3 h4
    go_enter Tryz.func23, Tryz.ntmps23
    go_upto_region 1 with (fail)
    rw [HW.out]
    go_wp2_with fail
    go_ret
    exact ⟨rfl, hb⟩
  subst e1 e2
  rw [show decide (u = u ∧ f = f ∧ s = t ∧ xs = us ∧ ys = zs) = decide (s = t ∧ xs = us ∧ ys = zs) from decide_eq_decide.2 ⟨fun h => h.2.2, fun h => ⟨rfl, rfl, h⟩⟩]
  generalize decide (s = t ∧ xs = us ∧ ys = zs) = r at *
  have HK := Lib.hid K
  clear K hW B1 B2 h1 h2 h3 h4
  go_enter Tryz.func23, Tryz.ntmps23
  go_upto_region 1 with (fail)
  rw [HW.out]
  go_wp2_with fail
  with_reducible refine HK.out.mono ?_
  rintro _ w1 ⟨rfl, b1⟩
  go_wp2_with fail
  go_ret
  exact ⟨rfl, bb hb b1⟩

end Go.Proofs.YthpbaaanbimapaaGreatDoor

namespace Go.Proofs.YthpbaaanbimapaaGreatDoor
set_option maxRecDepth 100000
open Go.RowKit
set_option linter.unusedVariables false
set_option linter.unusedSimpArgs false

/-- a number is stored into block g at o -/
def put3o (w : World) (g o : Nat) (x0 x1 x2 : Value) : World := ((w.setCell ⟨g, o, none⟩ x0).setCell ⟨g, o + 1, none⟩ x1).setCell ⟨g, o + 2, none⟩ x2
theorem keep_put3o (w : World) (g o : Nat) (x0 x1 x2 : Value) : Keep g w (put3o w g o x0 x1 x2) := (((Keep.refl g w).setCell o x0).setCell (o + 1) x1).setCell (o + 2) x2
theorem block_put3o {t : TypeId} {w : World} {g o : Nat} {cur : Array Value} (h : w.heap[g]? = some (.cells cur t (0, 0))) (x0 x1 x2 : Value) : (put3o w g o x0 x1 x2).heap[g]? = some (.cells (((cur.setIfInBounds o x0).setIfInBounds (o + 1) x1).setIfInBounds (o + 2) x2) t (0, 0)) := by
  unfold put3o World.setCell
  simp [Array.getElem?_modify, h]
end Go.Proofs.YthpbaaanbimapaaGreatDoor

namespace Go.Proofs.YthpbaaanbimapaaGreatDoor
set_option maxRecDepth 100000
open Go.RowKit
set_option linter.unusedVariables false
set_option linter.unusedSimpArgs false

/-- block G begins with the instructions xs, as they lie -/
def PRow (w : World) (G : Nat) (xs : List RI) : Prop := ∃ cur : Array Value, w.heap[G]? = some (.cells cur 80 (0, 0)) ∧ cur.toList.take (xs.length * 6) = xs.flatMap RI.cells
section
variable {w w' : World} {G : Nat} {xs : List RI}
theorem PRow.lt (h : PRow w G xs) : G < w.heap.size := by
  obtain ⟨cur, hh, _⟩ := h
  exact (Array.getElem?_eq_some_iff.1 hh).1
theorem PRow.below (h : PRow w G xs) (hb : Below w.heap.size w w') : PRow w' G xs := by
  have hlt := h.lt
  obtain ⟨cur, hh, htk⟩ := h
  exact ⟨cur, (hb.block G hlt).trans hh, htk⟩
theorem PRow.free (h : PRow w G xs) (i : Nat) : w.frozen? ⟨G, i, none⟩ = false := by
  obtain ⟨cur, hh, _⟩ := h
  simp [World.frozen?, hh]
theorem PRow.cell (h : PRow w G xs) {i j : Nat} (hi : i < xs.length) (hj : j < 6) : w.cell? ⟨G, i * 6 + j, none⟩ = (RI.cells xs[i])[j]? := by
  obtain ⟨cur, hh, htk⟩ := h
  have hf := flat_at xs (cells := RI.cells) (k := 6) (fun y _ => rfl) i j hj
  rw [List.getElem?_eq_getElem hi] at hf
  have h2 : (cur.toList.take (xs.length * 6))[i * 6 + j]? = (xs.flatMap RI.cells)[i * 6 + j]? := by rw [htk]
  have hlt : i * 6 + j < xs.length * 6 := by omega
  rw [List.getElem?_take, if_pos hlt, hf] at h2
  rw [cell_of_row w G _ cur _ (0, 0) hh, ← Array.getElem?_toList, h2]
  rfl
theorem PRow.six (h : PRow w G xs) {i : Nat} (hi : i < xs.length) :
    w.cell? ⟨G, i * 6, none⟩ = some (.int .i64 xs[i].op) ∧ w.cell? ⟨G, i * 6 + 1, none⟩ = some (.int .i64 xs[i].a) ∧ w.cell? ⟨G, i * 6 + 2, none⟩ = some (.int .i64 xs[i].b) ∧
    w.cell? ⟨G, i * 6 + 3, none⟩ = some (.bool xs[i].q.s) ∧ w.cell? ⟨G, i * 6 + 4, none⟩ = some (.slice xs[i].q.A xs[i].q.n xs[i].q.c) ∧ w.cell? ⟨G, i * 6 + 5, none⟩ = some (.slice xs[i].q.A' xs[i].q.n' xs[i].q.c') :=
  ⟨h.cell (j := 0) hi (by omega), h.cell (j := 1) hi (by omega), h.cell (j := 2) hi (by omega), h.cell (j := 3) hi (by omega), h.cell (j := 4) hi (by omega), h.cell (j := 5) hi (by omega)⟩
/-- a number is stored into an element -/
theorem PRow.put (h : PRow w G xs) {i : Nat} (hi : i < xs.length) (q : RQ) : PRow (put3o w G (i * 6 + 3) (.bool q.s) (.slice q.A q.n q.c) (.slice q.A' q.n' q.c')) G (xs.set i ⟨xs[i].op, xs[i].a, xs[i].b, q⟩) := by
  obtain ⟨cur, hh, htk⟩ := h
  refine ⟨_, block_put3o hh _ _ _, ?_⟩
  rw [List.length_set]
  have hsz : xs.length * 6 ≤ cur.size := by
    have h9 := congrArg List.length htk
    rw [List.length_take, flat_len xs (cells := RI.cells) (k := 6) (fun y _ => rfl), Array.length_toList (xs := cur)] at h9
    omega
  apply List.ext_getElem?
  intro k
  rw [List.getElem?_take]
  by_cases hk : k < xs.length * 6
  · rw [if_pos hk]
    have hk6 : k = k / 6 * 6 + k % 6 := by omega
    have hr : k % 6 < 6 := Nat.mod_lt _ (by omega)
    have old : cur.toList[k]? = (xs[k / 6]?).bind fun y => (RI.cells y)[k % 6]? := by
      rw [← flat_at xs (cells := RI.cells) (k := 6) (fun y _ => rfl) (k / 6) (k % 6) hr, ← hk6, ← htk, List.getElem?_take, if_pos hk]
    conv => rhs; rw [hk6]
    rw [flat_at (cells := RI.cells) (k := 6) _ (fun y _ => rfl) (k / 6) (k % 6) hr]
    simp only [Array.toList_setIfInBounds, List.getElem?_set, List.length_set, Array.length_toList]
    by_cases he : k / 6 = i
    · rw [if_pos he.symm, if_pos hi]
      rw [he, List.getElem?_eq_getElem hi] at old
      have h6 : k % 6 = 0 ∨ k % 6 = 1 ∨ k % 6 = 2 ∨ k % 6 = 3 ∨ k % 6 = 4 ∨ k % 6 = 5 := by omega
      rcases h6 with e | e | e | e | e | e
      · rw [if_neg (by omega), if_neg (by omega), if_neg (by omega), old, e]; rfl
      · rw [if_neg (by omega), if_neg (by omega), if_neg (by omega), old, e]; rfl
      · rw [if_neg (by omega), if_neg (by omega), if_neg (by omega), old, e]; rfl
      · rw [e, if_neg (by omega), if_neg (by omega), if_pos (by omega), if_pos (by omega)]; rfl
      · rw [e, if_neg (by omega), if_pos (by omega), if_pos (by omega)]; rfl
      · rw [e, if_pos (by omega), if_pos (by omega)]; rfl
    · rw [if_neg (by omega), if_neg (by omega), if_neg (by omega), if_neg (fun e => he e.symm)]
      exact old
  · rw [if_neg hk, List.getElem?_eq_none]
    rw [flat_len (cells := RI.cells) _ (k := 6) (fun y _ => rfl), List.length_set]
    omega
theorem PRow.slp (h : PRow w G xs) (hok : ∀ x ∈ xs, x.ok w) {c : Nat} (hc : xs.length ≤ c) (hm : c ≤ maxLen) : SlP w (some ⟨G, 0, none⟩) xs.length c xs := by
  refine ⟨⟨rfl, hc, hm, fun x hx => ⟨hok x hx, rfl⟩⟩, fun h0 => ⟨G, 0, rfl, h.lt, fun j hj i hi => ?_⟩⟩
  rw [Nat.zero_add, h.cell hj hi, List.getElem?_eq_getElem hj]
  rfl
end
/-- an instruction whose words do not lie in block G -/
def RI.okN (G : Nat) (w : World) (x : RI) : Prop := I64 x.op ∧ I64 x.a ∧ I64 x.b ∧ SlN G w x.q.A x.q.n x.q.c x.q.z ∧ SlN G w x.q.A' x.q.n' x.q.c' x.q.z' ∧ x.q.n ≤ 65536 ∧ x.q.n' ≤ 65536
theorem RI.okN.ok {G : Nat} {w : World} {x : RI} (h : x.okN G w) : x.ok w := ⟨h.1, h.2.1, h.2.2.1, h.2.2.2.1.sl, h.2.2.2.2.1.sl, by have := h.2.2.2.2.2.1; unfold maxLen; omega, by have := h.2.2.2.2.2.2; unfold maxLen; omega⟩
theorem SlN.below {G : Nat} {w w' : World} {A : Option Addr} {n c : Nat} {xs : List Int} (h : SlN G w A n c xs) (hb : Below w.heap.size w w') : SlN G w' A n c xs := ⟨h.1.below hb, h.2⟩
theorem RI.okN.below {G : Nat} {w w' : World} {x : RI} (h : x.okN G w) (hb : Below w.heap.size w w') : x.okN G w' := ⟨h.1, h.2.1, h.2.2.1, h.2.2.2.1.below hb, h.2.2.2.2.1.below hb, h.2.2.2.2.2⟩
theorem RI.okN.keep {G : Nat} {w w' : World} {x : RI} (h : x.okN G w) (k : Keep G w w') : x.okN G w' := ⟨h.1, h.2.1, h.2.2.1, h.2.2.2.1.keep k, h.2.2.2.2.1.keep k, h.2.2.2.2.2⟩
/-- a call that returns a program, in new memory -/
def RetProg (p : List PI) (w : World) (e : Ending) (w' : World) : Prop := ∃ A n c xs, e = .returned (.slice A n c) ∧ SlP w' A n c xs ∧ xs.map RI.pi = p ∧ Below w.heap.size w w'
/-- a bank's program has no long numbers -/
def PShort (p : List PI) : Prop := ∀ x ∈ p, x.q.2.1.length ≤ 65536 ∧ x.q.2.2.length ≤ 65536

theorem pnews {w : World} {G o : Nat} {n c : Nat} {xs : List RI} (h : SlP w (some ⟨G, o, none⟩) n c xs) : ∀ (j : Nat) (u : Value), (xs.flatMap RI.cells)[j]? = some u → w.cell? ((⟨G, o, none⟩ : Addr).add j) = some u := by
  intro j u hj
  have hl := h.1.1
  have hlt := (List.getElem?_eq_some_iff.1 hj).1
  rw [flat_len xs (cells := RI.cells) (k := 6) (fun y _ => rfl)] at hlt
  have e1 : (⟨G, o, none⟩ : Addr).add j = ⟨G, o + j, none⟩ := by
    unfold Addr.add; split
    · rename_i h9; rw [h9, Nat.add_zero]
    · rfl
  obtain ⟨b, off, e, _, hc⟩ := h.2 (by omega)
  injection e with e
  injection e with e2 e3
  subst e2 e3
  have h2 := hc (j / 6) (by omega) (j % 6) (Nat.mod_lt _ (by omega))
  rw [show o + j / 6 * 6 + j % 6 = o + j by omega] at h2
  have h3 := flat_at xs (cells := RI.cells) (k := 6) (fun y _ => rfl) (j / 6) (j % 6) (Nat.mod_lt _ (by omega))
  rw [show j / 6 * 6 + j % 6 = j by omega, hj] at h3
  rw [e1, h2, ← h3]
theorem ri_cells_one (xs : List RI) : ∀ u ∈ xs.flatMap RI.cells, u.oneCell' = true := by
  intro u hu
  obtain ⟨x, _, hx⟩ := List.mem_flatMap.1 hu
  simp [RI.cells] at hx
  rcases hx with rfl | rfl | rfl | rfl | rfl | rfl <;> rfl

set_option maxRecDepth 100000 in
set_option maxHeartbeats 4000000 in
theorem bk_program {w : World} {F : List Nat} {g : Nat} {b : PB} (h : Bk w F g b) (hs : PShort b.prog) : Calls Tryz.prog 20 #[.pointer (some ⟨g, 0, none⟩)] w (RetProg b.prog w) := by
  obtain ⟨va, vp, vm, ps, hA⟩ := h
  obtain ⟨A, c, hvp, hlc, hcm⟩ := hA.rp.form
  subst hvp
  obtain ⟨k0, k1, k2, k3, _⟩ := hA.cells
  obtain ⟨i0, hi, hz0, hz1, hz2⟩ := info_parts infoI
  have hpl := hA.pl
  have hpi := hA.pi
  have hlen : ps.length = b.prog.length := by rw [← hpi, List.length_map]
  have hsl := hA.rp.slc (ok := RI.ok) (fun x hx => (hA.ok x hx).1)
  have HPI := Lib.hid hpi
  by_cases h0 : ps = []
  · subst h0
    clear hA hpi hlen hsl hpl k0 k1 k3
    go_enter Tryz.func20, Tryz.ntmps20
    go_wp2_with (at_builtin; refine wpList_append_zero _ rfl _ _ 46 rfl 80 i0 Tryz.underlying46 hi A c rfl rfl ?_)
    go_wp2_with fail
    go_loop [14] (fun iv => iv = .int .i64 0) (fun _ => 0)
    case atStart => rfl
    case round =>
      subst hrel
      go_wp2_with fail
      go_ret
      exact ⟨none, 0, 0, [], rfl, ⟨⟨rfl, Nat.le_refl _, by unfold maxLen; omega, by simp⟩, fun h9 => absurd h9 (by omega)⟩, HPI.out, Below.refl _ _⟩
  · have hn0 : 0 < ps.length := List.length_pos_iff.2 h0
    obtain ⟨ab, ao, hab, _, _⟩ := hsl.2 hn0
    subst hab
    have hnews := pnews hsl
    have hok := hA.ok
    have hshort : ∀ x ∈ ps, x.q.n ≤ 65536 ∧ x.q.n' ≤ 65536 := fun x hx => by
      have h9 := hs x.pi (by rw [← hpi]; exact List.mem_map_of_mem hx)
      have h8 := (hok x hx).1
      have l1 := h8.2.2.2.1.len
      have l2 := h8.2.2.2.2.1.len
      have e1 : x.pi.q.2.1 = x.q.z := rfl
      have e2 : x.pi.q.2.2 = x.q.z' := rfl
      rw [e1, e2] at h9
      omega
    obtain ⟨n, hn⟩ : ∃ n, ps.length = n := ⟨_, rfl⟩
    rw [hn] at hn0 hlen hlc hsl
    have HL := Lib.hid hn
    have HNE := Lib.hid hnews
    have HOK := Lib.hid hok
    have HSH := Lib.hid hshort
    have HFL := Lib.hid (show (ps.flatMap RI.cells).length = n * 6 by rw [flat_len ps (cells := RI.cells) (k := 6) (fun y _ => rfl), hn])
    obtain ⟨us, hus⟩ : ∃ us, ps.flatMap RI.cells = us := ⟨_, rfl⟩
    have HUS := Lib.hid hus
    have HUO := Lib.hid (ri_cells_one ps)
    rw [hus] at HNE HFL HUO
    have hn6 : n ≤ 65536 := by omega
    have hvp2 : w.cell? ⟨g, 2, none⟩ = some (.slice (some ⟨ab, ao, none⟩) n c) := by rw [← hn]; exact k2
    clear hnews hok hshort h0 hA hpi hus hlen hpl k0 k1 k2 k3 hsl hn
    go_enter Tryz.func20, Tryz.ntmps20
    go_wp2_with (at_builtin; refine wpList_append_own _ rfl _ _ 46 rfl w.heap.size 80 i0 _ 6 80 Tryz.underlying46 hi hz0 hz1 hz2 rfl (by decide) _ _ _ rfl (World.ownsRow_nil _ _ _ _) ⟨ab, ao, none⟩ n c us rfl HFL.out HNE.out HUO.out (by unfold maxLen; omega) (by omega) (Nat.le_refl _) ?_)
    intro v1 w1 hown hgrow _
    have b1 : Below w.heap.size w w1 := (Below.refl _ w).grown hgrow (Nat.le_refl _) (fun k e => by cases e)
    obtain ⟨G, cap, rfl, hG, hprow, hcap, hcm2⟩ : ∃ G cap, v1 = .slice (some ⟨G, 0, none⟩) n cap ∧ w.heap.size ≤ G ∧ PRow w1 G ps ∧ n ≤ cap ∧ cap ≤ maxLen := by
      rcases hown.2 with ⟨_, h9⟩ | ⟨G, cap, cur, h9, hB9, hh9, hc9, hm9, hs9, ht9⟩
      · omega
      · refine ⟨G, cap, by rw [h9], hB9, ⟨cur, hh9, ?_⟩, by omega, hm9⟩
        rw [HL.out, HUS.out]
        simpa using ht9
    have hokN : ∀ x ∈ ps, x.okN G w1 := fun x hx => by
      obtain ⟨⟨t1, t2, t3, t4, t5, t6, t7⟩, _, _⟩ := HOK.out x hx
      obtain ⟨s1, s2⟩ := HSH.out x hx
      exact ⟨t1, t2, t3, Sl.apart' t4 b1 hG, Sl.apart' t5 b1 hG, s1, s2⟩
    have HR := Lib.hid hprow
    have HON := Lib.hid hokN
    clear hown hgrow hprow hokN HNE HFL HUO HUS HOK HSH
    go_wp2_with fail
    go_loopw [14] (fun iv wr => ∃ (k : Nat) (xs : List RI), k ≤ n ∧ iv = .int .i64 k ∧ Hid (xs.length = n) ∧ Hid (PRow wr G xs) ∧ Hid (xs.map RI.pi = b.prog) ∧ Hid (∀ x ∈ xs, x.okN G wr) ∧ Below w.heap.size w wr) (fun iv _ => n - mes iv)
    case atStart => exact ⟨0, ps, by omega, rfl, HL, HR, HPI, HON, b1⟩
    case round =>
      clear HR HON b1
      obtain ⟨k, xs, hk, rfl, HXL, HR, HXP, HON, hb⟩ := hrel
      by_cases hk2 : k < n
      · have hkx : k < xs.length := by rw [HXL.out]; exact hk2
        obtain ⟨x, hx⟩ : ∃ x, xs[k] = x := ⟨_, rfl⟩
        obtain ⟨d0, d1, d2, d3, d4, d5⟩ := HR.out.six hkx
        rw [hx] at d0 d1 d2 d3 d4 d5
        have hxo := HON.out x (by rw [← hx]; exact List.getElem_mem hkx)
        have CL := bk_clone hxo.2.2.2.1.sl hxo.2.2.2.2.1.sl (s := x.q.s) (by have := hxo.2.2.2.2.2.1; omega) (by have := hxo.2.2.2.2.2.2; omega)
        have f3 := HR.out.free (k * 6 + 3)
        have f4 := HR.out.free (k * 6 + 4)
        have f5 := HR.out.free (k * 6 + 5)
        have HX := Lib.hid hx
        have HXO := Lib.hid hxo
        have HC := Lib.hid CL
        have HKX := Lib.hid hkx
        obtain ⟨op, a, bb0, q⟩ := x
        simp only at d0 d1 d2 d3 d4 d5 HC
        clear hx hxo CL
        go_wp2_with fail
        refine HC.out.mono ?_
        rintro _ w2 ⟨A1, n1, c1, A2, n2, c2, rfl, s1, s2, b2, nw1, nw2⟩
        have HR2 := Lib.hid (HR.out.below b2)
        have e3 := HR2.out.free (k * 6 + 3)
        have e4 := HR2.out.free (k * 6 + 4)
        have e5 := HR2.out.free (k * 6 + 5)
        have S1 := Lib.hid s1
        have S2 := Lib.hid s2
        obtain ⟨q0, q1, q2, q3, q4, q5⟩ := HR2.out.six HKX.out
        rw [HX.out] at q0 q1 q2 q3 q4 q5
        simp only at q0 q1 q2 q3 q4 q5
        clear s1 s2 f3 f4 f5 d0 d1 d2 d3 d4 d5
        go_wp2_with fail
        go_roundw
        case rel =>
          have hp := HR2.out.put HKX.out ⟨q.s, A1, n1, c1, q.z, A2, n2, c2, q.z'⟩
          have hkp := keep_put3o w2 G (k * 6 + 3) (.bool q.s) (.slice A1 n1 c1) (.slice A2 n2 c2)
          have hbb := Below.keep (hb.trans (b2.mono hb.size)) hkp hG (Nat.le_refl _)
          have hwG := HR.out.lt
          rw [HX.out] at hp
          refine ⟨k + 1, _, by omega, by go_num, Lib.hid (by rw [List.length_set]; exact HXL.out), Lib.hid hp, Lib.hid ?_, Lib.hid (fun y hy => ?_), hbb⟩
          · rw [List.map_set, ← HXP.out]
            apply List.ext_getElem?
            intro j
            rw [List.getElem?_set]
            by_cases hj : k = j
            · subst hj
              rw [if_pos rfl, if_pos (by rw [List.length_map]; exact hkx), List.getElem?_map, List.getElem?_eq_getElem hkx, HX.out]
              rfl
            · rw [if_neg hj]
          · have ho := HXO.out
            rcases List.mem_or_eq_of_mem_set hy with h9 | h9
            · exact ((HON.out y h9).below b2).keep hkp
            · rw [h9]
              have l1 := ho.2.2.2.1.sl.len
              have l2 := ho.2.2.2.2.1.sl.len
              have m1 := S1.out.len
              have m2 := S2.out.len
              have lim := ho.2.2.2.2.2
              simp only at l1 l2 lim
              exact ⟨ho.1, ho.2.1, ho.2.2.1, (Sl.new S1.out nw1 hwG).keep hkp, (Sl.new S2.out nw2 hwG).keep hkp, by show n1 ≤ 65536; omega, by show n2 ≤ 65536; omega⟩
        case measure => simp [mes, intOf]; omega
      · obtain rfl : k = n := by omega
        have hp := HR.out.slp (fun x hx => (HON.out x hx).ok) (c := cap) (by rw [HXL.out]; exact hcap) hcm2
        rw [HXL.out] at hp
        have HF := Lib.hid hp
        clear hp HR HON
        go_wp2_with fail
        go_ret
        exact ⟨_, _, _, xs, rfl, HF.out, HXP.out, hb⟩

end Go.Proofs.YthpbaaanbimapaaGreatDoor

namespace Go.Proofs.YthpbaaanbimapaaGreatDoor
set_option maxRecDepth 100000
open Go.RowKit
set_option linter.unusedVariables false
set_option linter.unusedSimpArgs false

end Go.Proofs.YthpbaaanbimapaaGreatDoor
