/-
  gradineplain.Wide of a slice of scalars; power.Bits and gradineref08.Bits of numbers valid or not; Fits. Conditions: as each lemma says.
-/
import Derived.Test.YthpbaaanbimapaaGreatDoorBkKAllC
import Derived.Test.YthpbaaanbimapaaGreatDoorBkCAllC
import Derived.Test.YthpbaaanbimapaaGreatDoorRatRunAllC
namespace Go.Proofs.YthpbaaanbimapaaGreatDoor
set_option maxRecDepth 100000
open Go.RowKit
set_option linter.unusedVariables false
set_option linter.unusedSimpArgs false

theorem half_sz : Sz ((1 : Int) / (2 : Int) : Rat) 2 := by
  rw [Rat.div_def]
  exact (sz_int (z := 1) (by omega) (by omega)).mul (sz_int (z := 2) (by omega) (by omega)).inv
theorem half_half : ((1 : Int) / (2 : Int) : Rat) + ((1 : Int) / (2 : Int) : Rat) = ((1 : Int) : Rat) := by decide +kernel
/-- a sum in the mode Exact -/
theorem bk_add0 {w : World} {F : List Nat} {g N : Nat} {b : PB} {x y : SV} {X Y : Rat} (h : Bk w F g b) (he : b.err = 0) (hm : b.mode = 0) (ho : b.ops < 1000000000) (hx : Q w x.s x.A x.n x.c x.D x.m x.d X) (hy : Q w y.s y.A y.n y.c y.D y.m y.d Y) (hX : Sz X N) (hY : Sz Y N) (hN : N ≤ 40000) :
    Calls Tryz.prog 32 #[.pointer (some ⟨g, 0, none⟩), .agg x.agg, .agg y.agg] w (RetStep ⟨some (X + Y), 0, 0⟩ w F g { b with ops := b.ops + 1 }) := by
  have K : ∀ w3, Below w.heap.size w w3 → Calls Tryz.prog 170 #[.int .i64 4, .agg #[.bool x.s, .slice x.A x.n x.c, .slice x.D x.m x.d], .agg #[.bool y.s, .slice y.A y.n y.c, .slice y.D y.m y.d]] w3 (RetQE (X + Y) 0 w3) :=
    fun w3 h3 => ex_add (hx.below h3) hX (hy.below h3) hY hN
  have O : ∀ w2, Below w.heap.size w w2 → Calls Tryz.prog 104 #[.pointer (some ⟨g, 0, none⟩), .agg #[.int .i64 4, .int .i64 x.f, .int .i64 y.f, .bool false, .slice none 0 0, .slice none 0 0], .agg x.agg, .agg y.agg] w2 (RetStep ⟨some (X + Y), 0, 0⟩ w2 F g { b with ops := b.ops + 1 }) :=
    fun w2 h2 => bk_operate0 (q := SV.zero) (x := x) (y := y) (h.below h2) he hm ho (fun w3 h3 => K w3 (bb h2 h3))
  exact bk_add h (fun w1 h1 => bk_two (h.below h1) (fun w2 h2 => O w2 (bb h1 h2)))
/-- a product in the mode Line -/
theorem bk_mul2 {w : World} {F : List Nat} {g : Nat} {b : PB} {x y : SV} (h : Bk w F g b) (he : b.err = 0) (hm : b.mode = 2) (hl : b.prog.length < 65536) (hx : b.wrote x.f = true) (hy : b.wrote y.f = true) (ha : I64 x.f) (hc : I64 y.f) (ho : b.ops < 1000000000) :
    Calls Tryz.prog 39 #[.pointer (some ⟨g, 0, none⟩), .agg x.agg, .agg y.agg] w (RetStep ⟨none, 0, b.prog.length⟩ w F g { b with prog := b.prog ++ [⟨6, x.f, y.f, nilQ⟩], ops := b.ops + 1 }) := by
  have O : ∀ w2, Below w.heap.size w w2 → Calls Tryz.prog 104 #[.pointer (some ⟨g, 0, none⟩), .agg #[.int .i64 6, .int .i64 x.f, .int .i64 y.f, .bool false, .slice none 0 0, .slice none 0 0], .agg x.agg, .agg y.agg] w2 (RetStep ⟨none, 0, b.prog.length⟩ w2 F g { b with prog := b.prog ++ [⟨6, x.f, y.f, nilQ⟩], ops := b.ops + 1 }) :=
    fun w2 h2 => bk_operate2 (h.below h2) he hm hl hx hy (by unfold I64; omega) ha hc ho
  exact bk_mul h (fun w1 h1 => bk_two (h.below h1) (fun w2 h2 => O w2 (bb h1 h2)))

/-- .. and the bank that turns -/
theorem bk_pair' {w w' : World} {F1 F2 : List Nat} {g1 g2 : Nat} {b1 b2 : PB} (h2 : Bk w F2 g2 b2) (hst : BkStep w F1 g1 b1 w') (hd : ∀ x ∈ F1, x ∉ F2) :
    ∃ F1', Bk w' F1' g1 b1 ∧ Bk w' F2 g2 b2 ∧ (∀ x ∈ F1', x ∉ F2) ∧ Only F1 w w' ∧ WK w w' := by
  obtain ⟨F1', k1, k2, k3, k4⟩ := hst
  have hlt := h2.lt
  refine ⟨F1', k1, h2.only k2 k3 (fun x hx hx2 => hd x hx2 hx), fun x hx hx2 => ?_, k2, k3⟩
  rcases k4 x hx with h9 | h9
  · exact hd x h9 hx2
  · have := hlt x hx2; omega
/-- what lies apart from a bank stays apart from it, and as it was -/
theorem step_apart {w w' : World} {F : List Nat} {g : Nat} {b : PB} (hst : BkStep w F g b w') (L : List Nat) (hL : ∀ x ∈ L, x < w.heap.size) (hd : ∀ x ∈ L, x ∉ F) :
    ∃ F', Bk w' F' g b ∧ (∀ x ∈ L, x ∉ F') ∧ Only F w w' ∧ WK w w' ∧ (∀ x ∈ F', x ∈ F ∨ w.heap.size ≤ x) := by
  obtain ⟨F', k1, k2, k3, k4⟩ := hst
  refine ⟨F', k1, fun x hx hx2 => ?_, k2, k3, k4⟩
  rcases k4 x hx2 with h9 | h9
  · exact hd x hx h9
  · have := hL x hx; omega
/-- .. and what lay before both of them stays as it was -/
theorem step_far {B : Nat} {w0 w w' : World} {F F' : List Nat} (h0 : Below B w0 w ∧ B ≤ w.heap.size ∧ ∀ x ∈ F, B ≤ x) (ho : Only F w w') (hF : ∀ x ∈ F', x ∈ F ∨ w.heap.size ≤ x) : Below B w0 w' ∧ B ≤ w'.heap.size ∧ ∀ x ∈ F', B ≤ x := by
  have h1 := ho.below h0.2.1 h0.2.2
  have h2 := h1.size
  refine ⟨h0.1.trans h1, by omega, fun x hx => ?_⟩
  rcases hF x hx with h9 | h9
  · exact h0.2.2 x h9
  · omega
theorem far_below {B : Nat} {w0 w w' : World} {F : List Nat} (h0 : Below B w0 w ∧ B ≤ w.heap.size ∧ ∀ x ∈ F, B ≤ x) (hb : Below w.heap.size w w') : Below B w0 w' ∧ B ≤ w'.heap.size ∧ ∀ x ∈ F, B ≤ x :=
  ⟨h0.1.trans (hb.mono h0.2.1), Nat.le_trans h0.2.1 hb.size, h0.2.2⟩
def nilP (op a c : Int) : PI := ⟨op, a, c, nilQ⟩
def b21 : PB := { PB.new 2 [] with prog := [nilP 1 0 0], ins := 1 }
def b22 : PB := { PB.new 2 [] with prog := [nilP 1 0 0, nilP 1 1 0], ins := 2 }
def b23 : PB := { PB.new 2 [] with prog := [nilP 1 0 0, nilP 1 1 0, nilP 6 0 1], ins := 2, ops := 1 }
/-- the scalar of instruction k -/
def refV (k : Int) : SV := ⟨false, none, 0, 0, none, 0, 0, 0, k⟩
theorem lit_a {w : World} {F : List Nat} {g : Nat} (h : Bk w F g (PB.new 2 [])) : Calls Tryz.prog 33 #[.pointer (some ⟨g, 0, none⟩), .agg #[.int .i64 0, .int .i64 0, .int .u64 0]] w (fun r w' => r = .returned (.agg #[.bool false, .slice none 0 0, .slice none 0 0, .int .u64 0, .int .i64 0]) ∧ BkStep w F g b21 w') :=
  bk_lit2 (p := 0) (q := 0) (u := 0) h rfl rfl (by show (0 : Nat) < 65536; omega) (by show (0 : Nat) < 1000000000; omega)
theorem lit_b {w : World} {F : List Nat} {g : Nat} (h : Bk w F g b21) : Calls Tryz.prog 33 #[.pointer (some ⟨g, 0, none⟩), .agg #[.int .i64 0, .int .i64 0, .int .u64 0]] w (fun r w' => r = .returned (.agg #[.bool false, .slice none 0 0, .slice none 0 0, .int .u64 0, .int .i64 1]) ∧ BkStep w F g b22 w') :=
  bk_lit2 (p := 0) (q := 0) (u := 0) h rfl rfl (by show (1 : Nat) < 65536; omega) (by show (1 : Nat) < 1000000000; omega)
theorem mul_c {w : World} {F : List Nat} {g : Nat} (h : Bk w F g b22) : Calls Tryz.prog 39 #[.pointer (some ⟨g, 0, none⟩), .agg #[.bool false, .slice none 0 0, .slice none 0 0, .int .u64 0, .int .i64 0], .agg #[.bool false, .slice none 0 0, .slice none 0 0, .int .u64 0, .int .i64 1]] w (RetStep ⟨none, 0, 2⟩ w F g b23) :=
  bk_mul2 (x := refV 0) (y := refV 1) h rfl rfl (by show (2 : Nat) < 65536; omega) (by decide) (by decide) (by unfold I64 refV; simp) (by unfold I64 refV; simp) (by show (0 : Nat) < 1000000000; omega)
theorem prog_d {w : World} {F : List Nat} {g : Nat} (h : Bk w F g b23) : Calls Tryz.prog 20 #[.pointer (some ⟨g, 0, none⟩)] w (RetProg [nilP 1 0 0, nilP 1 1 0, nilP 6 0 1] w) :=
  bk_program h (fun x hx => by
    simp only [b23, List.mem_cons, List.not_mem_nil, or_false] at hx
    rcases hx with rfl | rfl | rfl <;> exact ⟨Nat.zero_le _, Nat.zero_le _⟩)

set_option maxRecDepth 100000 in
set_option maxHeartbeats 1000000 in
theorem same18 (w : World) : Calls Tryz.prog 9 #[] w (RetBl true w) := by
  have N1 := fun w => Lib.hid (bk_new_nil w (m := 0) (by omega) (by omega))
  have N2 := fun w => Lib.hid (bk_new_nil w (m := 2) (by omega) (by omega))
  go_enter Tryz.func9, Tryz.ntmps9
  go_wp2_with fail
  refine (N1 w).out.mono ?_
  rintro _ w1 ⟨g1, rfl, hb1, hg1, b1⟩
  have HB1 := Lib.hid hb1
  have hlt1 := hb1.lt g1 (by simp)
  clear hb1
  go_wp2_with fail
  refine (N2 w1).out.mono ?_
  rintro _ w2 ⟨g2, rfl, hb2, hg2, b2⟩
  have HB2 := Lib.hid hb2
  have HB1' := Lib.hid (HB1.out.below b2)
  have B2 := bb b1 b2
  have B1s := b1.size
  clear hb2 HB1 b1 N1 N2
  have NU := bk_num0 HB1'.out rfl rfl (p := 1) (q := 2) (by omega) (by omega) (by omega) (by omega) (by omega)
  have HNU := Lib.hid NU
  clear NU
  go_wp2_with fail
  refine HNU.out.mono ?_
  rintro _ w3 ⟨x, rfl, hx, b3⟩
  obtain ⟨s3, A3, n3, c3, D3, m3, d3, u3, f3⟩ := x
  obtain ⟨hu3, hf3, hq3⟩ := hx
  obtain ⟨H, hH⟩ : ∃ H : Rat, ((1 : Int) : Rat) / ((2 : Int) : Rat) = H := ⟨_, rfl⟩
  have hsz := half_sz
  have hhh := half_half
  simp only [hH] at hu3 hf3 hq3 hsz hhh
  subst hu3 hf3
  simp only [SV.agg]
  obtain ⟨V3, hV3, bx3, b4⟩ := box0 53 w3 #[.bool s3, .slice A3 n3 c3, .slice D3 m3 d3, .int .u64 0, .int .i64 0]
  have hq4 := hq3.below b4
  have B3 := bb b3 b4
  have HB1 := Lib.hid (HB1'.out.below B3)
  have HB2' := Lib.hid (HB2.out.below B3)
  have AD := bk_add0 (x := ⟨s3, A3, n3, c3, D3, m3, d3, 0, 0⟩) (y := ⟨s3, A3, n3, c3, D3, m3, d3, 0, 0⟩) HB1.out rfl rfl (by show (0 : Nat) < 1000000000; omega) hq4 hq4 hsz hsz (by omega)
  rw [hhh] at AD
  have HAD := Lib.hid AD
  have HV3 := Lib.hid hV3
  have HBX3 := Lib.hid bx3
  obtain ⟨⟨k0, k1, k2, k3, k4⟩, _⟩ := bx3.five
  clear hq3 hq4 AD hV3 bx3 HNU HB1' HB2 hsz hhh hH
  simp only [SV.agg] at HAD
  go_upto_region 3 with (fail)
  rw [HV3.out]
  go_wp2_with fail
  refine HAD.out.mono ?_
  rintro _ w5 ⟨x, rfl, hx, hst⟩
  obtain ⟨s5, A5, n5, c5, D5, m5, d5, u5, f5⟩ := x
  obtain ⟨hu5, hf5, hq5⟩ := hx
  simp only at hu5 hf5 hq5
  subst hu5 hf5
  simp only [SV.agg]
  obtain ⟨F1, HA, HC, hd1, ho5, hk5⟩ := bk_pair' HB2'.out hst (by intro x hx; simp at hx ⊢; omega)
  obtain ⟨V5, hV5, bx5, b6⟩ := box0 53 w5 #[.bool s5, .slice A5 n5 c5, .slice D5 m5 d5, .int .u64 0, .int .i64 0]
  have HAK := Lib.hid (HA.below b6)
  have HCK := Lib.hid (HC.below b6)
  have HQ5 := Lib.hid (hq5.below b6)
  have LT := lit_a HCK.out
  have HLT := Lib.hid LT
  have HV5 := Lib.hid hV5
  have HBX5 := Lib.hid bx5
  have b24 := bb B2 (bb b3 b4)
  have hn1 : w.heap.size ≤ g1 := hg1
  have hn2 : w.heap.size ≤ g2 := Nat.le_trans B1s hg2
  have HW5 := Lib.hid (far_below (F := [g2]) ⟨b24.trans ((show Only [g1] V3 w5 from ho5).below b24.size (fun x hx => by simp at hx; omega)), Nat.le_trans b24.size hk5.1, fun x hx => by simp at hx; omega⟩ b6)
  have HD2 := Lib.hid (show g2 < w5.heap.size from HC.lt g2 (by simp))
  clear hst HA HC hV5 bx5 hq5 LT HAD HB1 HB2' k0 k1 k2 k3 k4 ho5
  go_upto_region 4 with (fail)
  rw [HV5.out]
  go_wp2_with fail
  refine HLT.out.mono ?_
  rintro _ w6 ⟨rfl, hst⟩
  have lA := HAK.out.lt
  have hp5 : w5.heap.size < V5.heap.size := HBX5.out.lt
  have hd2 := HD2.out
  obtain ⟨F2, hc6, ha6, ho6, hk6, sz6⟩ := step_apart hst (F1 ++ [w5.heap.size]) (fun x hx => by
      rcases List.mem_append.1 hx with h9 | h9
      · exact lA x h9
      · rw [List.mem_singleton.1 h9]; exact hp5) (fun x hx => by
      rcases List.mem_append.1 hx with h9 | h9
      · exact hd1 x h9
      · rw [List.mem_singleton.1 h9]; simp; omega)
  have hA6 := HAK.out.only ho6 hk6 hd1
  have hX6 := ho6.box HBX5.out (by simp; omega)
  have hQ6 := Q.wk HQ5.out hk6
  obtain ⟨V6, hV6, bx6, b7⟩ := box0 53 w6 #[.bool false, .slice none 0 0, .slice none 0 0, .int .u64 0, .int .i64 0]
  have HA6 := Lib.hid (hA6.below b7)
  have HX6 := Lib.hid (hX6.below' b7)
  have HQ6 := Lib.hid (hQ6.below b7)
  have hc6' := hc6.below b7
  have LT := lit_b hc6'
  have HLT2 := Lib.hid LT
  have HC6 := Lib.hid hc6'
  have HC6l := Lib.hid hc6.lt
  have HD6 := Lib.hid ha6
  have HV6 := Lib.hid hV6
  have HBX6 := Lib.hid bx6
  have HW6 := Lib.hid (far_below (step_far HW5.out ho6 sz6) b7)
  clear hst hc6 ha6 ho6 hk6 sz6 hA6 hX6 hQ6 hV6 bx6 LT hc6' HLT HAK HBX5 HQ5 HCK lA
  go_wp2_with fail
  rw [HV6.out]
  refine HLT2.out.mono ?_
  rintro _ w7 ⟨rfl, hst⟩
  have lA := HA6.out.lt
  have hp5' : w5.heap.size < V6.heap.size := HX6.out.lt
  have hp6 : w6.heap.size < V6.heap.size := HBX6.out.lt
  have hd6 := HD6.out
  have l6 := HC6l.out
  have hL : ∀ x ∈ F1 ++ [w5.heap.size, w6.heap.size], x < V6.heap.size ∧ x ∉ F2 := fun x hx => by
    rcases List.mem_append.1 hx with h9 | h9
    · exact ⟨lA x h9, hd6 x (by simp [h9])⟩
    · simp only [List.mem_cons, List.not_mem_nil, or_false] at h9
      rcases h9 with h9 | h9
      · rw [h9]; exact ⟨hp5', hd6 _ (by simp)⟩
      · rw [h9]; exact ⟨hp6, fun hx2 => by have := l6 _ hx2; omega⟩
  obtain ⟨F3, hc7, ha7, ho7, hk7, sz7⟩ := step_apart hst (F1 ++ [w5.heap.size, w6.heap.size]) (fun x hx => (hL x hx).1) (fun x hx => (hL x hx).2)
  have hA7 := HA6.out.only ho7 hk7 (fun x hx => (hL x (by simp [hx])).2)
  have hX7 := ho7.box HX6.out (hL _ (by simp)).2
  have hY7 := ho7.box HBX6.out (hL _ (by simp)).2
  have hQ7 := Q.wk HQ6.out hk7
  obtain ⟨V7, hV7, bx7, b8⟩ := box0 53 w7 #[.bool false, .slice none 0 0, .slice none 0 0, .int .u64 0, .int .i64 1]
  have HA7 := Lib.hid (hA7.below b8)
  have HX7 := Lib.hid (hX7.below' b8)
  have hY7' := hY7.below' b8
  have HQ7 := Lib.hid (hQ7.below b8)
  have hc7' := hc7.below b8
  have MU := mul_c hc7'
  have HMU := Lib.hid MU
  have HC7 := Lib.hid hc7'
  have HC7l := Lib.hid hc7.lt
  have HD7 := Lib.hid ha7
  have HW7 := Lib.hid (far_below (step_far HW6.out ho7 sz7) b8)
  have HV7 := Lib.hid hV7
  obtain ⟨⟨y0, y1, y2, y3, y4⟩, _⟩ := hY7'.five
  obtain ⟨⟨z0, z1, z2, z3, z4⟩, _⟩ := bx7.five
  clear hst hc7 ha7 ho7 hk7 sz7 hA7 hX7 hY7 hY7' hQ7 hV7 bx7 MU hc7' HLT2 HA6 HX6 HQ6 HC6 HC6l HD6 HBX6 lA hp5' hp6 hd6 l6 hL HW6
  go_upto_region 6 with (fail)
  rw [HV7.out]
  go_wp2_with fail
  refine HMU.out.mono ?_
  rintro _ w8 ⟨sv, rfl, _, hst⟩
  clear y0 y1 y2 y3 y4 z0 z1 z2 z3 z4
  have lA := HA7.out.lt
  have hp5' : w5.heap.size < V7.heap.size := HX7.out.lt
  have hd7 := HD7.out
  have hL : ∀ x ∈ F1 ++ [w5.heap.size], x < V7.heap.size ∧ x ∉ F3 := fun x hx => by
    rcases List.mem_append.1 hx with h9 | h9
    · exact ⟨lA x h9, hd7 x (by simp [h9])⟩
    · rw [List.mem_singleton.1 h9]; exact ⟨hp5', hd7 _ (by simp)⟩
  obtain ⟨F4, hc8, ha8, ho8, hk8, sz8⟩ := step_apart hst (F1 ++ [w5.heap.size]) (fun x hx => (hL x hx).1) (fun x hx => (hL x hx).2)
  have hA8 := HA7.out.only ho8 hk8 (fun x hx => (hL x (by simp [hx])).2)
  have hX8 := ho8.box HX7.out (hL _ (by simp)).2
  have hQ8 := Q.wk HQ7.out hk8
  have PR := prog_d hc8
  have HW8 := Lib.hid (step_far HW7.out ho8 sz8)
  have HPR := Lib.hid PR
  have HA8 := Lib.hid hA8
  have HX8 := Lib.hid hX8
  have HQ8 := Lib.hid hQ8
  clear hst hc8 ha8 ho8 hk8 sz8 hA8 hX8 hQ8 PR HMU HA7 HX7 HQ7 HC7 HC7l HD7 lA hp5' hd7 hL HW7
  go_wp2_with fail
  refine HPR.out.mono ?_
  rintro _ w9 ⟨A9, n9, c9, xs, rfl, hp9, hpi, b9⟩
  have hlen9 : xs.length = 3 := by
    have h9 := congrArg List.length hpi
    rw [List.length_map] at h9
    exact h9
  obtain rfl : n9 = 3 := by rw [← hp9.1.1, hlen9]
  have hA9 := HA8.out.below b9
  have hX9 := HX8.out.below' b9
  have hQ9 := HQ8.out.below b9
  have hone : Sz (((1 : Int) : Rat)) 1 := sz_int (by omega) (by omega)
  have hOP : ∀ w10, Below w9.heap.size w9 w10 → Calls Tryz.prog 15 #[.pointer (some ⟨g1, 0, none⟩)] w10 (RetI 1 w10) := fun w10 h10 => bk_ops (hA9.below h10)
  have hOF : ∀ w10, Below w9.heap.size w9 w10 → Calls Tryz.prog 37 #[.int .i64 1] w10 (RetQ ((1 : Int) : Rat) w10) := fun w10 h10 => ref_of 1 (by omega) (by omega) w10
  have hSM : ∀ w10, Below w9.heap.size w9 w10 → ∀ t A n c A' n' c', Q w10 t A n c A' n' c' ((1 : Int) : Rat) → Calls Tryz.prog 40 #[.agg #[.bool s5, .slice A5 n5 c5, .slice D5 m5 d5], .agg #[.bool t, .slice A n c, .slice A' n' c']] w10 (RetBl true w10) := fun w10 h10 t A n c A' n' c' hq => by
    have := ref_sameQ (hQ9.below h10) hq hone hone (by omega)
    rw [decide_eq_true rfl] at this
    exact this
  obtain ⟨bP, oP, xP, rfl, hltP, hxP, _, pc0, pc1, pc2, _⟩ := hp9.at_ (j := 2) (by omega)
  obtain ⟨bQ, oQ, xQ, eQ, hltQ, hxQ, _, pd0, pd1, pd2, _⟩ := hp9.at_ (j := 1) (by omega)
  injection eQ with eQ
  injection eQ with eQ1 eQ2
  subst eQ1 eQ2
  have hx2 : xP.op = 6 ∧ xP.b = 1 := by
    have h9 := congrArg (fun l : List PI => l[2]?) hpi
    simp only [List.getElem?_map, hxP] at h9
    simp [RI.pi, nilP] at h9
    exact ⟨h9.1, h9.2.2.1⟩
  have hx1 : xQ.a = 1 := by
    have h9 := congrArg (fun l : List PI => l[1]?) hpi
    simp only [List.getElem?_map, hxQ] at h9
    simp [RI.pi, nilP] at h9
    exact h9.2.1
  rw [hx2.1] at pc0
  rw [hx2.2] at pc2
  rw [hx1] at pd1
  have hS : ∀ w', Below w9.heap.size w9 w' → (w'.cell? ⟨w5.heap.size, 0, none⟩ = some (.bool s5) ∧ w'.cell? ⟨w5.heap.size, 1, none⟩ = some (.slice A5 n5 c5) ∧ w'.cell? ⟨w5.heap.size, 2, none⟩ = some (.slice D5 m5 d5)) ∧
      w'.cell? ⟨bP, oP + 12, none⟩ = some (.int .i64 6) ∧ w'.cell? ⟨bP, oP + 14, none⟩ = some (.int .i64 1) ∧ w'.cell? ⟨bP, oP + 7, none⟩ = some (.int .i64 1) := fun w' hb => by
    obtain ⟨⟨a0, a1, a2, _, _⟩, _⟩ := (hX9.below' hb).five
    exact ⟨⟨a0, a1, a2⟩, (hb.cell (p := ⟨bP, oP + 12, none⟩) hltP).trans pc0, (hb.cell (p := ⟨bP, oP + 14, none⟩) hltP).trans pc2, (hb.cell (p := ⟨bP, oP + 7, none⟩) hltP).trans pd1⟩
  have HOF := Lib.hid hOF
  have HSM := Lib.hid hSM
  have HOP := Lib.hid hOP
  have HS := Lib.hid hS
  have HBW : Hid (Below w.heap.size w w9) := Lib.hid (HW8.out.1.trans (b9.mono HW8.out.2.1))
  clear hA9 hX9 hQ9 hOP hOF hSM hS hx2 hx1 pc0 pc1 pc2 pd0 pd1 pd2 hxP hxQ hp9 hpi hlen9 HA8 HX8 HQ8
  go_wp2_with fail
  obtain ⟨⟨k0, k1, k2⟩, k3, k4, k5⟩ := HS.out _ (Below.refl _ w9)
  go_region_held3 (fun w' => (w'.cell? ⟨w5.heap.size, 0, none⟩ = some (.bool s5) ∧ w'.cell? ⟨w5.heap.size, 1, none⟩ = some (.slice A5 n5 c5) ∧ w'.cell? ⟨w5.heap.size, 2, none⟩ = some (.slice D5 m5 d5)) ∧
      w'.cell? ⟨bP, oP + 12, none⟩ = some (.int .i64 6) ∧ w'.cell? ⟨bP, oP + 14, none⟩ = some (.int .i64 1) ∧ w'.cell? ⟨bP, oP + 7, none⟩ = some (.int .i64 1)) (first | exact HS.out _ (Below.refl _ w9).drew | exact HS.out _ x1 | exact HS.out _ x2 | exact HS.out _ x3)
    (first
      | (go_at_call 37; (with_reducible refine (HOF.out _ ?hb1).mono ?_); (case hb1 => exact (Below.refl _ w9).drew); rintro _ v1 ⟨t1, E1, p1, q1, E2, p2, q2, rfl, hqof, bb1⟩; have x1 : Below w9.heap.size w9 v1 := Below.undrew bb1)
      | (go_at_call 40; (with_reducible refine (HSM.out _ x1 _ _ _ _ _ _ _ hqof).mono ?_); rintro _ v2 ⟨rfl, bb2⟩; have x2 := bb x1 bb2)
      | (go_at_call 15; (with_reducible refine (HOP.out _ x2).mono ?_); rintro _ v3 ⟨rfl, bb3⟩; have x3 := bb x2 bb3)
      | fail)
  all_goals
    go_wp2_with fail
    go_ret
    exact ⟨rfl, HBW.out.trans (x3.mono HBW.out.size)⟩

end Go.Proofs.YthpbaaanbimapaaGreatDoor

namespace Go.Proofs.YthpbaaanbimapaaGreatDoor
set_option maxRecDepth 100000
open Go.RowKit
set_option linter.unusedVariables false
set_option linter.unusedSimpArgs false

def SV.cells (x : SV) : List Value := [.bool x.s, .slice x.A x.n x.c, .slice x.D x.m x.d, .int .u64 x.u, .int .i64 x.f]
/-- a slice of scalars: its cells -/
def SlV (w : World) (A : Option Addr) (n c : Nat) (xs : List SV) : Prop := SlC 5 SV.cells (fun _ _ => True) w A n c xs
theorem SlV.below {w w' : World} {A : Option Addr} {n c : Nat} {xs : List SV} (h : SlV w A n c xs) (hb : Below w.heap.size w w') : SlV w' A n c xs := SlC.below (cells := SV.cells) (fun h _ => h) h hb
theorem SlV.at_ {w : World} {A : Option Addr} {n c : Nat} {xs : List SV} (h : SlV w A n c xs) {j : Nat} (hj : j < n) : ∃ b off x, A = some ⟨b, off, none⟩ ∧ b < w.heap.size ∧ xs[j]? = some x ∧
    w.cell? ⟨b, off + j * 5, none⟩ = some (.bool x.s) ∧ w.cell? ⟨b, off + j * 5 + 1, none⟩ = some (.slice x.A x.n x.c) ∧ w.cell? ⟨b, off + j * 5 + 2, none⟩ = some (.slice x.D x.m x.d) ∧ w.cell? ⟨b, off + j * 5 + 3, none⟩ = some (.int .u64 x.u) ∧ w.cell? ⟨b, off + j * 5 + 4, none⟩ = some (.int .i64 x.f) := by
  obtain ⟨b, off, e, hlt, hc⟩ := h.2 (by omega)
  have hl : j < xs.length := by rw [h.1.1]; exact hj
  have hx : xs[j]? = some xs[j] := List.getElem?_eq_getElem hl
  have hcj := hc j hj
  rw [hx] at hcj
  exact ⟨b, off, xs[j], e, hlt, hx, hcj 0 (by omega), hcj 1 (by omega), hcj 2 (by omega), hcj 3 (by omega), hcj 4 (by omega)⟩
def wideB (k : Int) (xs : List SV) : Bool := xs.any fun x => decide (k < (x.n : Int) ∨ k < (x.m : Int))

set_option maxHeartbeats 2000000 in
theorem plain_wide {w : World} {A : Option Addr} {n c : Nat} {xs : List SV} (h : SlV w A n c xs) (k : Int) :
    Calls Tryz.prog 21 #[.slice A n c, .int .i64 k] w (RetBl (wideB k xs) w) := by
  have hlen : xs.length = n := h.1.1
  have hmx : n ≤ 9223372036854775807 := by have h1 := h.1.2.1; have h2 := h.1.2.2.1; unfold maxLen at h2; omega
  have HL := Lib.hid hlen
  clear hlen
  go_enter Tryz.func21, Tryz.ntmps21
  go_wp2_with fail
  go_loopw [8] (fun iv wr => ∃ j : Nat, j ≤ n ∧ iv = .int .i64 j ∧ Below w.heap.size w wr ∧ Hid (∀ (i : Nat) x, i < j → xs[i]? = some x → decide (k < (x.n : Int) ∨ k < (x.m : Int)) = false)) (fun iv _ => n - mes iv)
  case atStart => exact ⟨0, by omega, rfl, Below.refl _ _, Lib.hid (fun i x hi => absurd hi (by omega))⟩
  case round =>
    obtain ⟨j, hj, rfl, hb, HF⟩ := hrel
    by_cases hj2 : j < n
    · obtain ⟨b0, off, x, rfl, hlt, hxk, c0, c1, c2, c3, c4⟩ := (h.below hb).at_ hj2
      have LG := plain_long (w := wr) (s := x.s) (A := x.A) (A' := x.D) (n := x.n) (n' := x.m) (c := x.c) (c' := x.d) k
      obtain ⟨r, hr⟩ : ∃ r, decide (k < (x.n : Int) ∨ k < (x.m : Int)) = r := ⟨_, rfl⟩
      rw [hr] at LG
      have HK := Lib.hid LG
      have HR := Lib.hid hr
      clear LG hr
      cases r
      case true =>
        have hyes : wideB k xs = true := List.any_eq_true.2 ⟨x, List.mem_of_getElem? hxk, HR.out⟩
        clear HF hxk
        go_wp2_with fail
        with_reducible refine HK.out.mono ?_
        rintro _ w2 ⟨rfl, b2⟩
        go_wp2_with fail
        go_ret
        exact ⟨by rw [hyes]; rfl, bb hb b2⟩
      case false =>
        go_wp2_with fail
        with_reducible refine HK.out.mono ?_
        rintro _ w2 ⟨rfl, b2⟩
        go_wp2_with fail
        go_roundw
        case rel => exact ⟨j + 1, by omega, by go_num, bb hb b2, Lib.hid (fun i y hi hy => by
          rcases Nat.lt_or_eq_of_le (Nat.le_of_lt_succ hi) with h9 | h9
          · exact HF.out i y h9 hy
          · rw [h9, hxk] at hy; cases hy; exact HR.out)⟩
        case measure => simp [mes, intOf]; omega
    · obtain rfl : j = n := by omega
      have hno : wideB k xs = false := by
        unfold wideB
        rw [List.any_eq_false]
        intro x hx
        obtain ⟨i, hi⟩ := List.mem_iff_getElem?.1 hx
        have h9 := HF.out i x (by
          have := HL.out
          rcases Nat.lt_or_ge i xs.length with h9 | h9
          · omega
          · rw [List.getElem?_eq_none h9] at hi; cases hi) hi
        rw [h9]
        simp
      go_wp2_with fail
      go_ret
      exact ⟨by rw [hno]; rfl, hb⟩

set_option maxRecDepth 100000 in
set_option maxHeartbeats 4000000 in
theorem pw_bits_raw {w : World} {s : Bool} {A A' : Option Addr} {n n' c c' : Nat} {xs ys : List Int} (h : Sl w A n c xs) (h' : Sl w A' n' c' ys) (hn : n ≤ 1000000) (hn' : n' ≤ 1000000) :
    Calls Tryz.prog 55 #[.agg #[.bool s, .slice A n c, .slice A' n' c']] w (RetI (max (blen (val xs) : Int) (blen (val ys))) w) := by
  obtain ⟨V, hW, Ba, hb0⟩ := box0 51 w #[.bool s, .slice A n c, .slice A' n' c']
  have h1 := h.below hb0
  have h2 := h'.below hb0
  have N1 := fun (w1 : World) (x : Sl w1 A n c xs) => nat_bits x (by omega)
  have N2 := fun (w1 : World) (x : Sl w1 A' n' c' ys) => nat_bits x (by omega)
  have hS : ∀ w', Below V.heap.size V w' → w'.cell? ⟨w.heap.size, 0, none⟩ = some (.bool s) ∧ w'.cell? ⟨w.heap.size, 1, none⟩ = some (.slice A n c) ∧ w'.cell? ⟨w.heap.size, 2, none⟩ = some (.slice A' n' c') := fun w' hb => (Ba.below' hb).three.1
  generalize ((blen (val xs) : Nat) : Int) = p at *
  generalize ((blen (val ys) : Nat) : Int) = q at *
  have HN1 := Lib.hid N1
  have HN2 := Lib.hid N2
  have HS := Lib.hid hS
  have HW := Lib.hid hW
  clear N1 N2 hS Ba hW h h'
  rcases Int.lt_trichotomy p q with hle | rfl | hle
  all_goals
    first | rw [show max p p = p by omega] | rw [show max p q = q by omega] | rw [show max p q = p by omega]
    go_enter Tryz.func55, Tryz.ntmps55
    go_wp2_with fail
    rw [HW.out]
    obtain ⟨k0, k1, k2⟩ := HS.out _ (Below.refl _ V)
    go_region_held3 (fun w' => w'.cell? ⟨w.heap.size, 0, none⟩ = some (.bool s) ∧ w'.cell? ⟨w.heap.size, 1, none⟩ = some (.slice A n c) ∧ w'.cell? ⟨w.heap.size, 2, none⟩ = some (.slice A' n' c')) (exact HS.out _ (Below.refl _ V).drew)
      (first
        | (go_at_call 84; (with_reducible refine (HN1.out _ ?hz1).mono ?_); (case hz1 => exact h1); rintro _ _ ⟨rfl, rfl⟩)
        | (go_at_call 84; (with_reducible refine (HN2.out _ ?hz2).mono ?_); (case hz2 => exact h2); rintro _ _ ⟨rfl, rfl⟩))
    all_goals
      go_wp2_with fail
      go_ret
      exact ⟨rfl, hb0.drew⟩

set_option maxRecDepth 100000 in
set_option maxHeartbeats 4000000 in
theorem ref_bits_raw {w : World} {s : Bool} {A A' : Option Addr} {n n' c c' : Nat} {xs ys : List Int} (h : Sl w A n c xs) (h' : Sl w A' n' c' ys) (hn : n ≤ 1000000) (hn' : n' ≤ 1000000) :
    Calls Tryz.prog 56 #[.agg #[.bool s, .slice A n c, .slice A' n' c']] w (RetI (max (blen (val xs) : Int) (blen (val ys))) w) := by
  obtain ⟨V, hW, Ba, hb0⟩ := box0 51 w #[.bool s, .slice A n c, .slice A' n' c']
  have h1 := h.below hb0
  have h2 := h'.below hb0
  have N1 := fun (w1 : World) (x : Sl w1 A n c xs) => ref_bits x (by omega)
  have N2 := fun (w1 : World) (x : Sl w1 A' n' c' ys) => ref_bits x (by omega)
  have hS : ∀ w', Below V.heap.size V w' → w'.cell? ⟨w.heap.size, 0, none⟩ = some (.bool s) ∧ w'.cell? ⟨w.heap.size, 1, none⟩ = some (.slice A n c) ∧ w'.cell? ⟨w.heap.size, 2, none⟩ = some (.slice A' n' c') := fun w' hb => (Ba.below' hb).three.1
  generalize ((blen (val xs) : Nat) : Int) = p at *
  generalize ((blen (val ys) : Nat) : Int) = q at *
  have HN1 := Lib.hid N1
  have HN2 := Lib.hid N2
  have HS := Lib.hid hS
  have HW := Lib.hid hW
  clear N1 N2 hS Ba hW h h'
  rcases Int.lt_trichotomy p q with hle | rfl | hle
  all_goals
    first | rw [show max p p = p by omega] | rw [show max p q = q by omega] | rw [show max p q = p by omega]
    go_enter Tryz.func56, Tryz.ntmps56
    go_wp2_with fail
    rw [HW.out]
    obtain ⟨k0, k1, k2⟩ := HS.out _ (Below.refl _ V)
    go_region_held3 (fun w' => w'.cell? ⟨w.heap.size, 0, none⟩ = some (.bool s) ∧ w'.cell? ⟨w.heap.size, 1, none⟩ = some (.slice A n c) ∧ w'.cell? ⟨w.heap.size, 2, none⟩ = some (.slice A' n' c')) (exact HS.out _ (Below.refl _ V).drew)
      (first
        | (go_at_call 93; (with_reducible refine (HN1.out _ ?hz1).mono ?_); (case hz1 => exact h1); rintro _ _ ⟨rfl, rfl⟩)
        | (go_at_call 93; (with_reducible refine (HN2.out _ ?hz2).mono ?_); (case hz2 => exact h2); rintro _ _ ⟨rfl, rfl⟩))
    all_goals
      go_wp2_with fail
      go_ret
      exact ⟨rfl, hb0.drew⟩

def fitB (xs ys : List Int) : Bool := decide (max (blen (val xs) : Int) (blen (val ys)) ≤ 512)
theorem bk_fits {w : World} {x : SV} {xs ys : List Int} (h : Sl w x.A x.n x.c xs) (h' : Sl w x.D x.m x.d ys) (hn : x.n ≤ 1000000) (hn' : x.m ≤ 1000000) :
    Calls Tryz.prog 27 #[.agg x.agg] w (RetBl (fitB xs ys) w) := by
  obtain ⟨V, hW, Ba, hb0⟩ := box0 53 w x.agg
  obtain ⟨s, A, n, c, D, m, d, u, f⟩ := x
  have K := pw_bits_raw (s := s) (h.below hb0) (h'.below hb0) hn hn'
  simp only [SV.agg] at hW Ba K ⊢
  obtain ⟨⟨k0, k1, k2, k3, k4⟩, _⟩ := Ba.five
  unfold fitB
  generalize max ((blen (val xs) : Nat) : Int) ((blen (val ys) : Nat) : Int) = r at *
  have HK := Lib.hid K
  have HW := Lib.hid hW
  clear K hW Ba h h'
  go_enter Tryz.func27, Tryz.ntmps27
  go_upto_region 1 with (fail)
  rw [HW.out]
  go_wp2_with fail
  with_reducible refine HK.out.mono ?_
  rintro _ w1 ⟨rfl, b1⟩
  go_wp2_with fail
  go_ret
  exact ⟨rfl, bb hb0 b1⟩
theorem rf_fits18 {w : World} {x : SV} {xs ys : List Int} (h : Sl w x.A x.n x.c xs) (h' : Sl w x.D x.m x.d ys) (hn : x.n ≤ 1000000) (hn' : x.m ≤ 1000000) :
    Calls Tryz.prog 28 #[.agg x.agg] w (RetBl (fitB xs ys) w) := by
  obtain ⟨V, hW, Ba, hb0⟩ := box0 53 w x.agg
  obtain ⟨s, A, n, c, D, m, d, u, f⟩ := x
  have K := ref_bits_raw (s := s) (h.below hb0) (h'.below hb0) hn hn'
  simp only [SV.agg] at hW Ba K ⊢
  obtain ⟨⟨k0, k1, k2, k3, k4⟩, _⟩ := Ba.five
  unfold fitB
  generalize max ((blen (val xs) : Nat) : Int) ((blen (val ys) : Nat) : Int) = r at *
  have HK := Lib.hid K
  have HW := Lib.hid hW
  clear K hW Ba h h'
  go_enter Tryz.func28, Tryz.ntmps28
  go_upto_region 1 with (fail)
  rw [HW.out]
  go_wp2_with fail
  with_reducible refine HK.out.mono ?_
  rintro _ w1 ⟨rfl, b1⟩
  go_wp2_with fail
  go_ret
  exact ⟨rfl, bb hb0 b1⟩

end Go.Proofs.YthpbaaanbimapaaGreatDoor
