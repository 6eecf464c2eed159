/-
  The four laws of layer 13 return true for any words. Conditions: none but that the arguments are words and an int.
-/
import Derived.Test.YtmoahgiklgicgaaFcMathAll
namespace Go.Proofs.Ytmoahgiklgicgaa
set_option maxRecDepth 100000
open Go.RowKit
set_option linter.unusedVariables false
set_option linter.unusedSimpArgs false

set_option maxHeartbeats 1000000 in
theorem same13 (w : World) : Calls Try.prog 10 #[] w fun e w' => e = .returned (.bool true) ∧ Below w.heap.size w w' := by
  have A1 := fun w1 => fc_near (b := 4612811918334230528) (by omega) w1
  have A2 := fun w1 => fc_less (a := 9223372036854775808) (b := 0) (by omega) (by omega) w1
  have A3 := fun w1 => fc_same (a := 9223372036854775808) (b := 0) (by omega) (by omega) w1
  have A4 := fun w1 => fc_scale (b := 4607182418800017408) (by omega) (-1074) w1
  unfold RetN at A1
  rw [show nrv 4612811918334230528 = 2 by decide +kernel, show nok 4612811918334230528 = true by decide +kernel] at A1
  rw [show fless 9223372036854775808 0 = false by decide +kernel] at A2
  rw [show fsame 9223372036854775808 0 = true by decide +kernel] at A3
  rw [show fscale 4607182418800017408 (-1074) = 1 by decide +kernel] at A4
  have H1 := Lib.hid A1
  have H2 := Lib.hid A2
  have H3 := Lib.hid A3
  have H4 := Lib.hid A4
  clear A1 A2 A3 A4
  go_enter Try.func10, Try.ntmps10
  go_wp2_with fail
  refine (H1.out _).mono ?_
  rintro _ w1 ⟨rfl, b1⟩
  go_wp2_with fail
  refine (H2.out _).mono ?_
  rintro _ _ ⟨rfl, rfl⟩
  go_wp2_with fail
  refine (H3.out _).mono ?_
  rintro _ _ ⟨rfl, rfl⟩
  go_wp2_with fail
  refine (H4.out _).mono ?_
  rintro _ w2 ⟨rfl, b2⟩
  go_wp2_with fail
  go_ret
  exact ⟨rfl, bb b1 b2⟩

set_option maxHeartbeats 2000000 in
theorem fcmpTells_walk (a b : Int) (w0 : (Lit.int .u64 a).wf = true) (w1 : (Lit.int .u64 b).wf = true) (w : World) :
    Calls Try.prog 3 #[.int .u64 a, .int .u64 b] w fun e w' => e = .returned (.bool true) ∧ Below w.heap.size w w' := by
  obtain ⟨a, rfl, ha⟩ := u64_wf w0
  obtain ⟨b, rfl, hb⟩ := u64_wf w1
  clear w0 w1
  have A1 := fun w1 => rf_cmp13 ha hb w1
  have A2 := fun w1 => fc_less ha hb w1
  have A3 := fun w1 => fc_same ha hb w1
  rw [fless_fcm ha hb] at A2
  rw [fsame_fcm] at A3
  generalize fcm a b = n at *
  have H1 := Lib.hid A1
  have e1 : ((decide (n = -1)) == (n == -1)) = true := by by_cases h : n = -1 <;> simp [h]
  have e2 : ((decide (n = 0)) == (n == 0)) = true := by by_cases h : n = 0 <;> simp [h]
  obtain ⟨p, hp⟩ : ∃ p : Bool, decide (n = -1) = p := ⟨_, rfl⟩
  obtain ⟨q, hq⟩ : ∃ q : Bool, decide (n = 0) = q := ⟨_, rfl⟩
  rw [hp] at A2 e1
  rw [hq] at A3 e2
  have H2 := Lib.hid A2
  have H3 := Lib.hid A3
  clear A1 A2 A3 hp hq
  go_enter Try.func3, Try.ntmps3
  go_wp2_with fail
  with_reducible refine (H1.out _).mono ?_
  rintro _ w1 ⟨rfl, b1⟩
  go_wp2_with fail
  with_reducible refine (H2.out _).mono ?_
  rintro _ _ ⟨rfl, rfl⟩
  go_wp2_with fail
  with_reducible refine (H3.out _).mono ?_
  rintro _ _ ⟨rfl, rfl⟩
  go_wp2_with fail
  with_reducible refine (same13 _).mono ?_
  rintro _ w5 ⟨rfl, b5⟩
  go_wp2_with fail
  go_ret
  exact ⟨rfl, bb b1 b5⟩

set_option maxHeartbeats 2000000 in
theorem fcmpNear_walk (b : Int) (w0 : (Lit.int .u64 b).wf = true) (w : World) :
    Calls Try.prog 4 #[.int .u64 b] w fun e w' => e = .returned (.bool true) ∧ Below w.heap.size w w' := by
  obtain ⟨b, rfl, hb⟩ := u64_wf w0
  clear w0
  have A1 := fun w1 => fc_near hb w1
  have A2 := fun w1 => rf_near hb w1
  unfold RetN at A1 A2
  generalize nrv b = n at *
  generalize nok b = ok at *
  have H1 := Lib.hid A1
  have H2 := Lib.hid A2
  clear A1 A2
  go_enter Try.func4, Try.ntmps4
  go_wp2_with fail
  with_reducible refine (H1.out _).mono ?_
  rintro _ w1 ⟨rfl, b1⟩
  go_wp2_with fail
  with_reducible refine (H2.out _).mono ?_
  rintro _ w2 ⟨rfl, b2⟩
  go_wp2_with fail
  with_reducible refine (same13 _).mono ?_
  rintro _ w5 ⟨rfl, b5⟩
  go_wp2_with fail
  go_ret
  exact ⟨rfl, bb b1 (bb b2 b5)⟩

set_option maxHeartbeats 2000000 in
theorem fcmpScales_walk (b k : Int) (w0 : (Lit.int .u64 b).wf = true) (w1 : (Lit.int .i64 k).wf = true) (w : World) :
    Calls Try.prog 5 #[.int .u64 b, .int .i64 k] w fun e w' => e = .returned (.bool true) ∧ Below w.heap.size w w' := by
  obtain ⟨b, rfl, hb⟩ := u64_wf w0
  clear w0 w1
  have H1 := Lib.hid (fun w1 => fc_scale hb k w1)
  have H2 := Lib.hid (fun w1 => rf_scale hb k w1)
  generalize fscale b k = F at *
  go_enter Try.func5, Try.ntmps5
  go_wp2_with fail
  with_reducible refine (H1.out _).mono ?_
  rintro _ w1 ⟨rfl, b1⟩
  go_wp2_with fail
  with_reducible refine (H2.out _).mono ?_
  rintro _ w2 ⟨rfl, b2⟩
  go_wp2_with fail
  with_reducible refine (same13 _).mono ?_
  rintro _ w5 ⟨rfl, b5⟩
  go_wp2_with fail
  go_ret
  exact ⟨rfl, bb b1 (bb b2 b5)⟩

theorem order13 {a b c : Nat} (ha : a < 18446744073709551616) (hb : b < 18446744073709551616) (hc : c < 18446744073709551616) :
    fsame b a = fsame a b ∧
    ((isn a = true ∧ isn b = true ∧ fless a b = true ∧ fless b a = false ∧ fsame a b = false ∧ fless b c = false) ∨
     (isn a = true ∧ isn b = true ∧ fless a b = true ∧ fless b a = false ∧ fsame a b = false ∧ fless b c = true ∧ fless a c = true) ∨
     (isn a = true ∧ isn b = true ∧ fless a b = false ∧ fless b a = true ∧ fsame a b = false) ∨
     (isn a = true ∧ isn b = true ∧ fless a b = false ∧ fless b a = false ∧ fsame a b = true) ∨
     (isn a = false ∧ fless a b = false ∧ fless b a = false ∧ fsame a b = false) ∨
     (isn a = true ∧ isn b = false ∧ fless a b = false ∧ fless b a = false ∧ fsame a b = false)) := by
  rw [fless_rk ha hb, fless_rk hb ha, fless_rk hb hc, fless_rk ha hc]
  unfold fsame
  generalize isn a = p
  generalize isn b = q
  generalize isn c = r
  generalize rk a = x
  generalize rk b = y
  generalize rk c = z
  have hxy : decide (y = x) = decide (x = y) := by by_cases h : x = y <;> simp [h] <;> omega
  rw [hxy]
  cases p <;> cases q <;> cases r <;> simp <;> omega

set_option maxHeartbeats 4000000 in
theorem fcmpOrder_walk (a b c : Int) (w0 : (Lit.int .u64 a).wf = true) (w1 : (Lit.int .u64 b).wf = true) (w2 : (Lit.int .u64 c).wf = true) (w : World) :
    Calls Try.prog 6 #[.int .u64 a, .int .u64 b, .int .u64 c] w fun e w' => e = .returned (.bool true) ∧ Below w.heap.size w w' := by
  obtain ⟨a, rfl, ha⟩ := u64_wf w0
  obtain ⟨b, rfl, hb⟩ := u64_wf w1
  obtain ⟨c, rfl, hc⟩ := u64_wf w2
  clear w0 w1 w2
  obtain ⟨hsw, hor⟩ := order13 ha hb hc
  have LAB := Lib.hid (fc_less ha hb w)
  have LBA := Lib.hid (fc_less hb ha w)
  have LBC := Lib.hid (fc_less hb hc w)
  have LAC := Lib.hid (fc_less ha hc w)
  have SAB := Lib.hid (fc_same ha hb w)
  have SBA := Lib.hid (fc_same hb ha w)
  rw [hsw] at SBA
  have KA := Lib.hid (rf_kind ha w)
  have KB := Lib.hid (rf_kind hb w)
  have g1 : ((kd a : Int) != 4) = isn a := by
    unfold isn
    by_cases h4 : kd a = 4
    · rw [h4]; rfl
    · rw [decide_eq_false h4]; simp; omega
  have g2 : ((kd b : Int) != 4) = isn b := by
    unfold isn
    by_cases h4 : kd b = 4
    · rw [h4]; rfl
    · rw [decide_eq_false h4]; simp; omega
  clear hsw
  generalize isn a = n1 at *
  generalize isn b = n2 at *
  generalize fless a b = lab at *
  generalize fless b a = lba at *
  generalize fless b c = lbc at *
  generalize fless a c = lac at *
  generalize fsame a b = sab at *
  generalize kd a = k1 at *
  generalize kd b = k2 at *
  rcases hor with ⟨rfl, rfl, rfl, rfl, rfl, rfl⟩ | ⟨rfl, rfl, rfl, rfl, rfl, rfl, rfl⟩ | ⟨rfl, rfl, rfl, rfl, rfl⟩ | ⟨rfl, rfl, rfl, rfl, rfl⟩ | ⟨rfl, rfl, rfl, rfl⟩ | ⟨rfl, rfl, rfl, rfl, rfl⟩
  · go_enter Try.func6, Try.ntmps6
    go_wp2_with fail
    with_reducible refine LAB.out.mono ?_
    rintro _ w' ⟨rfl, rfl⟩
    go_wp2_with fail
    with_reducible refine LBA.out.mono ?_
    rintro _ w' ⟨rfl, rfl⟩
    go_wp2_with fail
    with_reducible refine SAB.out.mono ?_
    rintro _ w' ⟨rfl, rfl⟩
    go_wp2_with fail
    with_reducible refine KA.out.mono ?_
    rintro _ w' ⟨rfl, rfl⟩
    go_wp2_with fail
    with_reducible refine KB.out.mono ?_
    rintro _ w' ⟨rfl, rfl⟩
    go_wp2_with fail
    with_reducible refine SAB.out.mono ?_
    rintro _ w' ⟨rfl, rfl⟩
    go_wp2_with fail
    with_reducible refine SBA.out.mono ?_
    rintro _ w' ⟨rfl, rfl⟩
    go_wp2_with fail
    with_reducible refine LAB.out.mono ?_
    rintro _ w' ⟨rfl, rfl⟩
    go_wp2_with fail
    with_reducible refine LBC.out.mono ?_
    rintro _ w' ⟨rfl, rfl⟩
    go_wp2_with fail
    with_reducible refine (same13 _).mono ?_
    rintro _ w5 ⟨rfl, b5⟩
    go_wp2_with fail
    go_ret
    exact ⟨rfl, b5⟩
  · go_enter Try.func6, Try.ntmps6
    go_wp2_with fail
    with_reducible refine LAB.out.mono ?_
    rintro _ w' ⟨rfl, rfl⟩
    go_wp2_with fail
    with_reducible refine LBA.out.mono ?_
    rintro _ w' ⟨rfl, rfl⟩
    go_wp2_with fail
    with_reducible refine SAB.out.mono ?_
    rintro _ w' ⟨rfl, rfl⟩
    go_wp2_with fail
    with_reducible refine KA.out.mono ?_
    rintro _ w' ⟨rfl, rfl⟩
    go_wp2_with fail
    with_reducible refine KB.out.mono ?_
    rintro _ w' ⟨rfl, rfl⟩
    go_wp2_with fail
    with_reducible refine SAB.out.mono ?_
    rintro _ w' ⟨rfl, rfl⟩
    go_wp2_with fail
    with_reducible refine SBA.out.mono ?_
    rintro _ w' ⟨rfl, rfl⟩
    go_wp2_with fail
    with_reducible refine LAB.out.mono ?_
    rintro _ w' ⟨rfl, rfl⟩
    go_wp2_with fail
    with_reducible refine LBC.out.mono ?_
    rintro _ w' ⟨rfl, rfl⟩
    go_wp2_with fail
    with_reducible refine LAC.out.mono ?_
    rintro _ w' ⟨rfl, rfl⟩
    go_wp2_with fail
    with_reducible refine (same13 _).mono ?_
    rintro _ w5 ⟨rfl, b5⟩
    go_wp2_with fail
    go_ret
    exact ⟨rfl, b5⟩
  · go_enter Try.func6, Try.ntmps6
    go_wp2_with fail
    with_reducible refine LAB.out.mono ?_
    rintro _ w' ⟨rfl, rfl⟩
    go_wp2_with fail
    with_reducible refine LBA.out.mono ?_
    rintro _ w' ⟨rfl, rfl⟩
    go_wp2_with fail
    with_reducible refine SAB.out.mono ?_
    rintro _ w' ⟨rfl, rfl⟩
    go_wp2_with fail
    with_reducible refine KA.out.mono ?_
    rintro _ w' ⟨rfl, rfl⟩
    go_wp2_with fail
    with_reducible refine KB.out.mono ?_
    rintro _ w' ⟨rfl, rfl⟩
    go_wp2_with fail
    with_reducible refine SAB.out.mono ?_
    rintro _ w' ⟨rfl, rfl⟩
    go_wp2_with fail
    with_reducible refine SBA.out.mono ?_
    rintro _ w' ⟨rfl, rfl⟩
    go_wp2_with fail
    with_reducible refine LAB.out.mono ?_
    rintro _ w' ⟨rfl, rfl⟩
    go_wp2_with fail
    with_reducible refine (same13 _).mono ?_
    rintro _ w5 ⟨rfl, b5⟩
    go_wp2_with fail
    go_ret
    exact ⟨rfl, b5⟩
  · go_enter Try.func6, Try.ntmps6
    go_wp2_with fail
    with_reducible refine LAB.out.mono ?_
    rintro _ w' ⟨rfl, rfl⟩
    go_wp2_with fail
    with_reducible refine LBA.out.mono ?_
    rintro _ w' ⟨rfl, rfl⟩
    go_wp2_with fail
    with_reducible refine SAB.out.mono ?_
    rintro _ w' ⟨rfl, rfl⟩
    go_wp2_with fail
    with_reducible refine KA.out.mono ?_
    rintro _ w' ⟨rfl, rfl⟩
    go_wp2_with fail
    with_reducible refine KB.out.mono ?_
    rintro _ w' ⟨rfl, rfl⟩
    go_wp2_with fail
    with_reducible refine SAB.out.mono ?_
    rintro _ w' ⟨rfl, rfl⟩
    go_wp2_with fail
    with_reducible refine SBA.out.mono ?_
    rintro _ w' ⟨rfl, rfl⟩
    go_wp2_with fail
    with_reducible refine LAB.out.mono ?_
    rintro _ w' ⟨rfl, rfl⟩
    go_wp2_with fail
    with_reducible refine (same13 _).mono ?_
    rintro _ w5 ⟨rfl, b5⟩
    go_wp2_with fail
    go_ret
    exact ⟨rfl, b5⟩
  · go_enter Try.func6, Try.ntmps6
    go_wp2_with fail
    with_reducible refine LAB.out.mono ?_
    rintro _ w' ⟨rfl, rfl⟩
    go_wp2_with fail
    with_reducible refine LBA.out.mono ?_
    rintro _ w' ⟨rfl, rfl⟩
    go_wp2_with fail
    with_reducible refine SAB.out.mono ?_
    rintro _ w' ⟨rfl, rfl⟩
    go_wp2_with fail
    with_reducible refine KA.out.mono ?_
    rintro _ w' ⟨rfl, rfl⟩
    go_wp2_with fail
    with_reducible refine SAB.out.mono ?_
    rintro _ w' ⟨rfl, rfl⟩
    go_wp2_with fail
    with_reducible refine SBA.out.mono ?_
    rintro _ w' ⟨rfl, rfl⟩
    go_wp2_with fail
    with_reducible refine LAB.out.mono ?_
    rintro _ w' ⟨rfl, rfl⟩
    go_wp2_with fail
    with_reducible refine (same13 _).mono ?_
    rintro _ w5 ⟨rfl, b5⟩
    go_wp2_with fail
    go_ret
    exact ⟨rfl, b5⟩
  · go_enter Try.func6, Try.ntmps6
    go_wp2_with fail
    with_reducible refine LAB.out.mono ?_
    rintro _ w' ⟨rfl, rfl⟩
    go_wp2_with fail
    with_reducible refine LBA.out.mono ?_
    rintro _ w' ⟨rfl, rfl⟩
    go_wp2_with fail
    with_reducible refine SAB.out.mono ?_
    rintro _ w' ⟨rfl, rfl⟩
    go_wp2_with fail
    with_reducible refine KA.out.mono ?_
    rintro _ w' ⟨rfl, rfl⟩
    go_wp2_with fail
    with_reducible refine KB.out.mono ?_
    rintro _ w' ⟨rfl, rfl⟩
    go_wp2_with fail
    with_reducible refine SAB.out.mono ?_
    rintro _ w' ⟨rfl, rfl⟩
    go_wp2_with fail
    with_reducible refine SBA.out.mono ?_
    rintro _ w' ⟨rfl, rfl⟩
    go_wp2_with fail
    with_reducible refine LAB.out.mono ?_
    rintro _ w' ⟨rfl, rfl⟩
    go_wp2_with fail
    with_reducible refine (same13 _).mono ?_
    rintro _ w5 ⟨rfl, b5⟩
    go_wp2_with fail
    go_ret
    exact ⟨rfl, b5⟩

end Go.Proofs.Ytmoahgiklgicgaa
