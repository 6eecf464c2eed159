/-
  The law BankNil. No condition.
-/
import Derived.Test.YthpbaaanbimapaaGreatDoorBkMAllB
namespace Go.Proofs.YthpbaaanbimapaaGreatDoor
set_option maxRecDepth 100000
open Go.RowKit
set_option linter.unusedVariables false
set_option linter.unusedSimpArgs false

theorem sl_none (w : World) : Sl w none 0 0 [] := Sl.nil w none 0

set_option maxRecDepth 100000 in
set_option maxHeartbeats 1000000 in
theorem bankNil_row (x : SV) (xs ys : List Int) (y : SV) (us zs : List Int) (i a m o n : Int) (t : Bool) (e : Int) (w : World) (hx : InV w x xs ys) (hy : InV w y us zs) :
    Calls Tryz.prog 5 #[.agg #[.bool x.s, .slice x.A x.n x.c, .slice x.D x.m x.d, .int .u64 x.u, .int .i64 x.f], .agg #[.bool y.s, .slice y.A y.n y.c, .slice y.D y.m y.d, .int .u64 y.u, .int .i64 y.f], .agg #[.int .i64 i, .int .i64 a, .int .i64 m, .int .i64 o, .int .i64 n, .bool t, .int .i64 e]] w (fun r w' => r = .returned (.bool true) ∧ Below w.heap.size w w') := by
  have FA := fun w => Lib.hid (bk_fail_nil w 7)
  have AD := fun w => Lib.hid (bk_add_nil w x y)
  have LI := fun w => Lib.hid (bk_lit_nil w 0 1 0)
  have MO := fun w => Lib.hid (bk_mode_nil w)
  have ER := fun w => Lib.hid (bk_err_nil w)
  have OP := fun w => Lib.hid (bk_ops_nil w)
  have TI := fun w => Lib.hid (bk_tie_nil w)
  have ME := fun w => Lib.hid (bk_met_nil w)
  have PR := fun w => Lib.hid (bk_program_nil w)
  have MA := fun w => Lib.hid (bk_mark_nil w)
  have UN := fun w => Lib.hid (bk_undo_nil w i a m o n t e)
  have LE := fun w => Lib.hid (bk_less_nil w x y)
  have SA : ∀ w, Hid (Calls Tryz.prog 23 #[.agg SV.zero.agg, .agg SV.zero.agg] w (RetBl true w)) := fun w => Lib.hid (by
    have h := rf_same18 (w := w) (x := SV.zero) (y := SV.zero) (sl_none w) (sl_none w) (sl_none w) (sl_none w) (Nat.zero_le _) (Nat.zero_le _) (Nat.zero_le _) (Nat.zero_le _)
    rw [decide_eq_true ⟨rfl, rfl, rfl, rfl, rfl⟩] at h
    exact h)
  have S18 := fun w => Lib.hid (same18 w)
  unfold mkCells at UN MA
  simp only [SV.agg, SV.zero] at AD LI LE SA
  obtain ⟨V, hV, B1, B2, hb, hs⟩ := boxesV 53 53 w #[.bool x.s, .slice x.A x.n x.c, .slice x.D x.m x.d, .int .u64 x.u, .int .i64 x.f] #[.bool y.s, .slice y.A y.n y.c, .slice y.D y.m y.d, .int .u64 y.u, .int .i64 y.f]
  obtain ⟨V2, hV2, B3, hb2⟩ := box0 63 V #[.int .i64 i, .int .i64 a, .int .i64 m, .int .i64 o, .int .i64 n, .bool t, .int .i64 e]
  rw [hs] at B3
  have HV := Lib.hid hV
  have HV2 := Lib.hid hV2
  have HB := Lib.hid (bb hb hb2)
  have HB1 := Lib.hid (B1.below' hb2)
  have HB2 := Lib.hid (B2.below' hb2)
  have HB3 := Lib.hid B3
  clear hV hV2 hb hb2 B1 B2 B3
  go_enter Tryz.func5, Tryz.ntmps5
  go_upto_region 1 with (fail)
  rw [HV.out, HV2.out]
  go_wp2_with fail
  refine (FA _).out.mono ?_
  rintro _ w1 ⟨rfl, rfl⟩
  obtain ⟨⟨k0, k1, k2, k3, k4⟩, _⟩ := HB1.out.five
  obtain ⟨⟨l0, l1, l2, l3, l4⟩, _⟩ := HB2.out.five
  go_wp2_with fail
  refine (AD _).out.mono ?_
  rintro _ w3 ⟨rfl, b3⟩
  clear k0 k1 k2 k3 k4 l0 l1 l2 l3 l4
  obtain ⟨V3, hV3, bx3, b4⟩ := box0 53 w3 #[.bool false, .slice none 0 0, .slice none 0 0, .int .u64 0, .int .i64 0]
  have HV3 := Lib.hid hV3
  have HB34 := Lib.hid (bb b3 b4)
  have HBX3 := Lib.hid bx3
  clear hV3 bx3 b3 b4
  go_upto_region 4 with (fail)
  rw [HV3.out]
  go_wp2_with fail
  refine (LI _).out.mono ?_
  rintro _ w5 ⟨rfl, b5⟩
  obtain ⟨V5, hV5, bx5, b6⟩ := box0 53 w5 #[.bool false, .slice none 0 0, .slice none 0 0, .int .u64 0, .int .i64 0]
  have HV5 := Lib.hid hV5
  have HB56 := Lib.hid (bb b5 b6)
  have HBX5 := Lib.hid bx5
  have HX3 := Lib.hid (HBX3.out.below' (bb b5 b6))
  clear hV5 bx5 b5 b6
  go_upto_region 5 with (fail)
  rw [HV5.out]
  have hS : ∀ w', Below V5.heap.size V5 w' → (w'.cell? ⟨w.heap.size + 1 + 1, 0, none⟩ = some (.int .i64 i) ∧ w'.cell? ⟨w.heap.size + 1 + 1, 1, none⟩ = some (.int .i64 a) ∧ w'.cell? ⟨w.heap.size + 1 + 1, 2, none⟩ = some (.int .i64 m) ∧ w'.cell? ⟨w.heap.size + 1 + 1, 3, none⟩ = some (.int .i64 o) ∧ w'.cell? ⟨w.heap.size + 1 + 1, 4, none⟩ = some (.int .i64 n) ∧ w'.cell? ⟨w.heap.size + 1 + 1, 5, none⟩ = some (.bool t) ∧ w'.cell? ⟨w.heap.size + 1 + 1, 6, none⟩ = some (.int .i64 e)) ∧
      (w'.cell? ⟨w.heap.size, 0, none⟩ = some (.bool x.s) ∧ w'.cell? ⟨w.heap.size, 1, none⟩ = some (.slice x.A x.n x.c) ∧ w'.cell? ⟨w.heap.size, 2, none⟩ = some (.slice x.D x.m x.d) ∧ w'.cell? ⟨w.heap.size, 3, none⟩ = some (.int .u64 x.u) ∧ w'.cell? ⟨w.heap.size, 4, none⟩ = some (.int .i64 x.f)) ∧
      (w'.cell? ⟨w.heap.size + 1, 0, none⟩ = some (.bool y.s) ∧ w'.cell? ⟨w.heap.size + 1, 1, none⟩ = some (.slice y.A y.n y.c) ∧ w'.cell? ⟨w.heap.size + 1, 2, none⟩ = some (.slice y.D y.m y.d) ∧ w'.cell? ⟨w.heap.size + 1, 3, none⟩ = some (.int .u64 y.u) ∧ w'.cell? ⟨w.heap.size + 1, 4, none⟩ = some (.int .i64 y.f)) ∧
      (w'.cell? ⟨w3.heap.size, 0, none⟩ = some (.bool false) ∧ w'.cell? ⟨w3.heap.size, 1, none⟩ = some (.slice none 0 0) ∧ w'.cell? ⟨w3.heap.size, 2, none⟩ = some (.slice none 0 0) ∧ w'.cell? ⟨w3.heap.size, 3, none⟩ = some (.int .u64 0) ∧ w'.cell? ⟨w3.heap.size, 4, none⟩ = some (.int .i64 0)) ∧
      (w'.cell? ⟨w5.heap.size, 0, none⟩ = some (.bool false) ∧ w'.cell? ⟨w5.heap.size, 1, none⟩ = some (.slice none 0 0) ∧ w'.cell? ⟨w5.heap.size, 2, none⟩ = some (.slice none 0 0) ∧ w'.cell? ⟨w5.heap.size, 3, none⟩ = some (.int .u64 0) ∧ w'.cell? ⟨w5.heap.size, 4, none⟩ = some (.int .i64 0)) := fun w' hb => by
    have b2 := bb HB34.out HB56.out
    exact ⟨((HB3.out.below' b2).below' hb).seven.1, ((HB1.out.below' b2).below' hb).five.1, ((HB2.out.below' b2).below' hb).five.1, (HX3.out.below' hb).five.1, (HBX5.out.below' hb).five.1⟩
  have HS := Lib.hid hS
  have HBW : Hid (Below w.heap.size w V5) := Lib.hid (bb HB.out (bb HB34.out HB56.out))
  clear hS
  go_wp2_with fail
  go_wp2_with
    (first
      | (go_at_call 19; (with_reducible refine (MO _).out.mono ?_); rintro _ v ⟨rfl, rfl⟩)
      | (go_at_call 14; (with_reducible refine (ER _).out.mono ?_); rintro _ v ⟨rfl, rfl⟩)
      | (go_at_call 17; (with_reducible refine (ME _).out.mono ?_); rintro _ v ⟨rfl, rfl⟩)
      | (go_at_call 20; (with_reducible refine (PR _).out.mono ?_); rintro _ v ⟨rfl, rfl⟩)
      | (go_at_call 15; (with_reducible refine (OP _).out.mono ?_); rintro _ v ⟨rfl, h9⟩; have xB : Below V5.heap.size V5 v := (by first | exact h9 | exact Below.undrew h9))
      | (go_at_call 16; (with_reducible refine (TI _).out.mono ?_); rintro _ v ⟨rfl, h9⟩; have xB : Below V5.heap.size V5 v := (by first | exact bb xB h9 | exact bb xB (Below.undrew h9)))
      | (go_at_call 34; (with_reducible refine (MA _).out.mono ?_); rintro _ v ⟨rfl, h9⟩; have xB : Below V5.heap.size V5 v := (by first | exact bb xB h9 | exact bb xB (Below.undrew h9)); obtain ⟨⟨q0, q1, q2, q3, q4, q5, q6⟩, ⟨k0, k1, k2, k3, k4⟩, ⟨l0, l1, l2, l3, l4⟩, ⟨r0, r1, r2, r3, r4⟩, s0, s1, s2, s3, s4⟩ := HS.out _ xB)
      | (go_at_call 35; (with_reducible refine (UN _).out.mono ?_); rintro _ v ⟨rfl, h9⟩; have xB : Below V5.heap.size V5 v := (by first | exact bb xB h9 | exact bb xB (Below.undrew h9)); obtain ⟨⟨q0, q1, q2, q3, q4, q5, q6⟩, ⟨k0, k1, k2, k3, k4⟩, ⟨l0, l1, l2, l3, l4⟩, ⟨r0, r1, r2, r3, r4⟩, s0, s1, s2, s3, s4⟩ := HS.out _ xB)
      | (go_at_call 25; (with_reducible refine (LE _).out.mono ?_); rintro _ v ⟨rfl, h9⟩; have xB : Below V5.heap.size V5 v := (by first | exact bb xB h9 | exact bb xB (Below.undrew h9)); obtain ⟨⟨q0, q1, q2, q3, q4, q5, q6⟩, ⟨k0, k1, k2, k3, k4⟩, ⟨l0, l1, l2, l3, l4⟩, ⟨r0, r1, r2, r3, r4⟩, s0, s1, s2, s3, s4⟩ := HS.out _ xB)
      | (go_at_call 23; (with_reducible refine (SA _).out.mono ?_); rintro _ v ⟨rfl, h9⟩; have xB : Below V5.heap.size V5 v := (by first | exact bb xB h9 | exact bb xB (Below.undrew h9)); obtain ⟨⟨q0, q1, q2, q3, q4, q5, q6⟩, ⟨k0, k1, k2, k3, k4⟩, ⟨l0, l1, l2, l3, l4⟩, ⟨r0, r1, r2, r3, r4⟩, s0, s1, s2, s3, s4⟩ := HS.out _ xB)
      | (go_at_call 9; (with_reducible refine (S18 _).out.mono ?_); rintro _ v ⟨rfl, h9⟩; have xB : Below V5.heap.size V5 v := (by first | exact bb xB h9 | exact bb xB (Below.undrew h9)))
      | fail)
  all_goals
    go_ret
    exact ⟨rfl, HBW.out.trans (xB.mono HBW.out.size)⟩

end Go.Proofs.YthpbaaanbimapaaGreatDoor
