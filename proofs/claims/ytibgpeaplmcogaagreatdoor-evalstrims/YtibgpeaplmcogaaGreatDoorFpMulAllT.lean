/-
  Bounds of sums, products and quotients of doubles, plainly: what a rounded result lies between, and its sign. Conditions: as each lemma says.
-/
import Derived.Test.YtibgpeaplmcogaaGreatDoorFpMathAllT
import Derived.Test.YtibgpeaplmcogaaGreatDoorQuotWordAllT
import Derived.Test.YtibgpeaplmcogaaGreatDoorRefGcdAllT
import Derived.Test.YtibgpeaplmcogaaGreatDoorRefShiftAllT
import Derived.Test.YtibgpeaplmcogaaGreatDoorFbRunAllT
import Derived.Test.YtibgpeaplmcogaaGreatDoorRatAddAllT
namespace Go.Proofs.YtibgpeaplmcogaaGreatDoor
set_option maxRecDepth 100000
open Go.RowKit
set_option linter.unusedVariables false
set_option linter.unusedSimpArgs false

theorem fxp_range {b : Nat} (h : fld b < 2047) : -1138 ≤ fxp b ∧ fxp b ≤ 971 := by
  have := xpo_range h
  unfold fxp
  omega
theorem mkd_lt {m : Nat} (h : m < 18446744073709551616) (x : Bool) : mkd m x < 18446744073709551616 := by unfold mkd; split <;> omega
/-- the product's two words -/
theorem mul_words {x y : Nat} : hi64 ((x : Int) * y) = ((x * y / 18446744073709551616 : Nat) : Int) ∧ lo64 ((x : Int) * y) = ((x * y % 18446744073709551616 : Nat) : Int) := by
  have h : (x : Int) * y = ((x * y : Nat) : Int) := by push_cast; rfl
  unfold hi64 lo64
  rw [h]
  generalize x * y = z
  omega
theorem mul_word_lt {x y : Nat} (hx : x < 18446744073709551616) (hy : y < 18446744073709551616) : x * y / 18446744073709551616 < 18446744073709551616 := by
  rw [Nat.div_lt_iff_lt_mul (by omega)]
  exact Nat.mul_lt_mul_of_lt_of_le hx (Nat.le_of_lt hy) (by omega)

set_option maxRecDepth 100000 in
set_option maxHeartbeats 8000000 in
theorem fp_mul {a b : Nat} (ha : a < 18446744073709551616) (hb : b < 18446744073709551616) (w : World) :
    Calls Tryz.prog 99 #[.int .u64 a, .int .u64 b] w (RetW (fmul a b) w) := by
  have K1 := Lib.hid (fb_kind ha w)
  have K2 := Lib.hid (fb_kind hb w)
  have N1 := Lib.hid (fb_neg ha w)
  have N2 := Lib.hid (fb_neg hb w)
  have NN := Lib.hid (fb_nan w)
  have II := Lib.hid (fb_inf (ng a != ng b) w)
  have c1 := kd_cases a
  have c2 := kd_cases b
  have hF : fmul a b = if kd a = 4 ∨ kd b = 4 ∨ (kd a = 3 ∧ kd b = 0) ∨ (kd a = 0 ∧ kd b = 3) then NAN else if kd a = 3 ∨ kd b = 3 then sg (ng a != ng b) INF else sg (ng a != ng b) (magR (sig a * sig b) 1 (xpo a + xpo b)) := rfl
  have FIN : ∀ (h1 : kd a ≤ 2) (h2 : kd b ≤ 2), ∃ (x y hi lo z : Nat) (ax bx e : Int), (hi < 18446744073709551616 ∧ -3000 ≤ ax ∧ ax ≤ 3000 ∧ -3000 ≤ bx ∧ bx ≤ 3000 ∧ ax + bx + 64 = e) ∧
      Calls Tryz.prog 159 #[.int .u64 a] w (fun e w' => e = .returned (.tuple #[.int .u64 x, .int .i64 ax]) ∧ w = w') ∧
      Calls Tryz.prog 159 #[.int .u64 b] w (fun e w' => e = .returned (.tuple #[.int .u64 y, .int .i64 bx]) ∧ w = w') ∧
      Calls Tryz.prog 160 #[.int .u64 x, .int .u64 y] w (fun e w' => e = .returned (.tuple #[.int .u64 hi, .int .u64 lo]) ∧ w = w') ∧
      Calls Tryz.prog 161 #[.int .u64 hi, .int .u64 lo] w (fun e w' => e = .returned (.int .u64 z) ∧ w = w') ∧
      Calls Tryz.prog 151 #[.bool (ng a != ng b), .int .u64 z, .int .i64 e] w (RetW (sg (ng a != ng b) (magR (sig a * sig b) 1 (xpo a + xpo b))) w) := by
    intro h1 h2
    have f1 := c1.2.1 h1
    have f2 := c2.2.1 h2
    have r1 := fxp_range f1
    have r2 := fxp_range f2
    have l1 := fsg_lt a
    have l2 := fsg_lt b
    have hl := mul_word_lt l1 l2
    have M := limb_mul (fsg a : Int) (fsg b : Int) (by unfold U; omega) (by unfold U; omega) w
    rw [mul_words.1, mul_words.2] at M
    refine ⟨fsg a, fsg b, _, _, _, fxp a, fxp b, _, ⟨hl, by omega, by omega, by omega, by omega, rfl⟩, fp_full ha f1 w, fp_full hb f2 w, M, fp_mark hl w, ?_⟩
    have W1 := fr_word (ng a != ng b) (mkd_lt hl (decide (fsg a * fsg b % 18446744073709551616 ≠ 0))) (e := fxp a + fxp b + 64) (by omega) (by omega) w
    rw [mul_round] at W1
    exact W1
  generalize magR (sig a * sig b) 1 (xpo a + xpo b) = V at *
  replace c1 := c1.1
  replace c2 := c2.1
  generalize fmul a b = F at *
  generalize kd a = k at *
  generalize kd b = l at *
  obtain ⟨sn, hs⟩ : ∃ sn, (ng a != ng b) = sn := ⟨_, rfl⟩
  rw [hs] at hF II FIN
  generalize ng a = n1 at *
  generalize ng b = n2 at *
  have hs2 : (!(n1 == n2)) = sn := hs
  have hcl : (k = 4) ∨ (k ≠ 4 ∧ l = 4) ∨ (k = 3 ∧ l = 0) ∨ (k = 0 ∧ l = 3) ∨ (k = 3 ∧ (l ≠ 0 ∧ l ≠ 4)) ∨ ((k ≠ 0 ∧ k ≠ 3 ∧ k ≠ 4) ∧ l = 3) ∨ (k = 0 ∧ (l ≠ 3 ∧ l ≠ 4)) ∨ ((k ≠ 0 ∧ k ≠ 3 ∧ k ≠ 4) ∧ (l ≠ 3 ∧ l ≠ 4)) := by omega
  rcases hcl with h | h | h | h | h | h | h | h
  · have h0 := h
    subst h0
    rw [if_pos (.inl rfl)] at hF
    have HF := Lib.hid hF
    clear hF
    clear FIN
    go_enter Tryz.func99, Tryz.ntmps99
    go_wp2_with fail
    refine (K1.out).mono ?_
    rintro _ w' ⟨rfl, rfl⟩
    go_wp2_with fail
    refine (K2.out).mono ?_
    rintro _ w' ⟨rfl, rfl⟩
    go_wp2_with fail
    refine (N1.out).mono ?_
    rintro _ w' ⟨rfl, rfl⟩
    go_wp2_with fail
    refine (N2.out).mono ?_
    rintro _ w' ⟨rfl, rfl⟩
    go_wp2_with fail
    refine NN.out.mono ?_
    rintro _ w' ⟨rfl, rfl⟩
    go_wp2_with fail
    go_ret
    exact ⟨ret1 (by rw [HF.out]), Below.refl _ _⟩
  · obtain ⟨h0, h1⟩ := h
    have gk4 : ((k : Int) == 4) = false := by simp; omega
    subst h1
    rw [if_pos (.inr (.inl rfl))] at hF
    have HF := Lib.hid hF
    clear hF
    clear FIN
    go_enter Tryz.func99, Tryz.ntmps99
    go_wp2_with fail
    refine (K1.out).mono ?_
    rintro _ w' ⟨rfl, rfl⟩
    go_wp2_with fail
    refine (K2.out).mono ?_
    rintro _ w' ⟨rfl, rfl⟩
    go_wp2_with fail
    refine (N1.out).mono ?_
    rintro _ w' ⟨rfl, rfl⟩
    go_wp2_with fail
    refine (N2.out).mono ?_
    rintro _ w' ⟨rfl, rfl⟩
    go_wp2_with fail
    refine NN.out.mono ?_
    rintro _ w' ⟨rfl, rfl⟩
    go_wp2_with fail
    go_ret
    exact ⟨ret1 (by rw [HF.out]), Below.refl _ _⟩
  · obtain ⟨h0, h1⟩ := h
    subst h0
    subst h1
    rw [if_pos (.inr (.inr (.inl ⟨rfl, rfl⟩)))] at hF
    have HF := Lib.hid hF
    clear hF
    clear FIN
    go_enter Tryz.func99, Tryz.ntmps99
    go_wp2_with fail
    refine (K1.out).mono ?_
    rintro _ w' ⟨rfl, rfl⟩
    go_wp2_with fail
    refine (K2.out).mono ?_
    rintro _ w' ⟨rfl, rfl⟩
    go_wp2_with fail
    refine (N1.out).mono ?_
    rintro _ w' ⟨rfl, rfl⟩
    go_wp2_with fail
    refine (N2.out).mono ?_
    rintro _ w' ⟨rfl, rfl⟩
    go_wp2_with fail
    refine NN.out.mono ?_
    rintro _ w' ⟨rfl, rfl⟩
    go_wp2_with fail
    go_ret
    exact ⟨ret1 (by rw [HF.out]), Below.refl _ _⟩
  · obtain ⟨h0, h1⟩ := h
    subst h0
    subst h1
    rw [if_pos (.inr (.inr (.inr ⟨rfl, rfl⟩)))] at hF
    have HF := Lib.hid hF
    clear hF
    clear FIN
    go_enter Tryz.func99, Tryz.ntmps99
    go_wp2_with fail
    refine (K1.out).mono ?_
    rintro _ w' ⟨rfl, rfl⟩
    go_wp2_with fail
    refine (K2.out).mono ?_
    rintro _ w' ⟨rfl, rfl⟩
    go_wp2_with fail
    refine (N1.out).mono ?_
    rintro _ w' ⟨rfl, rfl⟩
    go_wp2_with fail
    refine (N2.out).mono ?_
    rintro _ w' ⟨rfl, rfl⟩
    go_wp2_with fail
    refine NN.out.mono ?_
    rintro _ w' ⟨rfl, rfl⟩
    go_wp2_with fail
    go_ret
    exact ⟨ret1 (by rw [HF.out]), Below.refl _ _⟩
  · obtain ⟨h0, h1⟩ := h
    have hc0 : ¬ (k = 4 ∨ l = 4 ∨ (k = 3 ∧ l = 0) ∨ (k = 0 ∧ l = 3)) := by omega
    subst h0
    have gl0 : ((l : Int) == 0) = false := by simp; omega
    have gl4 : ((l : Int) == 4) = false := by simp; omega
    rw [if_neg hc0, if_pos (.inl rfl)] at hF
    have HF := Lib.hid hF
    clear hF
    clear FIN
    go_enter Tryz.func99, Tryz.ntmps99
    go_wp2_with fail
    refine (K1.out).mono ?_
    rintro _ w' ⟨rfl, rfl⟩
    go_wp2_with fail
    refine (K2.out).mono ?_
    rintro _ w' ⟨rfl, rfl⟩
    go_wp2_with fail
    refine (N1.out).mono ?_
    rintro _ w' ⟨rfl, rfl⟩
    go_wp2_with fail
    refine (N2.out).mono ?_
    rintro _ w' ⟨rfl, rfl⟩
    go_wp2_with fail
    refine II.out.mono ?_
    rintro _ w' ⟨rfl, rfl⟩
    go_wp2_with fail
    go_ret
    exact ⟨ret1 (by rw [HF.out]), Below.refl _ _⟩
  · obtain ⟨h0, h1⟩ := h
    have hc0 : ¬ (k = 4 ∨ l = 4 ∨ (k = 3 ∧ l = 0) ∨ (k = 0 ∧ l = 3)) := by omega
    have gk0 : ((k : Int) == 0) = false := by simp; omega
    have gk3 : ((k : Int) == 3) = false := by simp; omega
    have gk4 : ((k : Int) == 4) = false := by simp; omega
    subst h1
    rw [if_neg hc0, if_pos (.inr rfl)] at hF
    have HF := Lib.hid hF
    clear hF
    clear FIN
    go_enter Tryz.func99, Tryz.ntmps99
    go_wp2_with fail
    refine (K1.out).mono ?_
    rintro _ w' ⟨rfl, rfl⟩
    go_wp2_with fail
    refine (K2.out).mono ?_
    rintro _ w' ⟨rfl, rfl⟩
    go_wp2_with fail
    refine (N1.out).mono ?_
    rintro _ w' ⟨rfl, rfl⟩
    go_wp2_with fail
    refine (N2.out).mono ?_
    rintro _ w' ⟨rfl, rfl⟩
    go_wp2_with fail
    refine II.out.mono ?_
    rintro _ w' ⟨rfl, rfl⟩
    go_wp2_with fail
    go_ret
    exact ⟨ret1 (by rw [HF.out]), Below.refl _ _⟩
  · obtain ⟨h0, h1⟩ := h
    have hc0 : ¬ (k = 4 ∨ l = 4 ∨ (k = 3 ∧ l = 0) ∨ (k = 0 ∧ l = 3)) := by omega
    have hc1 : ¬ (k = 3 ∨ l = 3) := by omega
    subst h0
    have gl3 : ((l : Int) == 3) = false := by simp; omega
    have gl4 : ((l : Int) == 4) = false := by simp; omega
    rw [if_neg hc0, if_neg hc1] at hF
    have HF := Lib.hid hF
    clear hF
    obtain ⟨x, y, hi, lo, z, ax, bx, e, ⟨q1, q2, q3, q4, q5, q6⟩, C1, C2, C3, C4, C5⟩ := FIN (by omega) (by omega)
    have D1 := Lib.hid C1
    have D2 := Lib.hid C2
    have D3 := Lib.hid C3
    have D4 := Lib.hid C4
    have D5 := Lib.hid C5
    clear C1 C2 C3 C4 C5 FIN
    go_enter Tryz.func99, Tryz.ntmps99
    go_wp2_with fail
    refine (K1.out).mono ?_
    rintro _ w' ⟨rfl, rfl⟩
    go_wp2_with fail
    refine (K2.out).mono ?_
    rintro _ w' ⟨rfl, rfl⟩
    go_wp2_with fail
    refine (N1.out).mono ?_
    rintro _ w' ⟨rfl, rfl⟩
    go_wp2_with fail
    refine (N2.out).mono ?_
    rintro _ w' ⟨rfl, rfl⟩
    go_wp2_with fail
    refine (D1.out).mono ?_
    rintro _ w' ⟨rfl, rfl⟩
    go_wp2_with fail
    refine (D2.out).mono ?_
    rintro _ w' ⟨rfl, rfl⟩
    go_wp2_with fail
    refine (D3.out).mono ?_
    rintro _ w' ⟨rfl, rfl⟩
    go_wp2_with fail
    refine (D4.out).mono ?_
    rintro _ w' ⟨rfl, rfl⟩
    go_wp2_with fail
    with_reducible refine (D5.out).mono ?_
    rintro _ w' ⟨rfl, bb⟩
    go_wp2_with fail
    go_ret
    exact ⟨ret1 (by rw [HF.out]), bb⟩
  · obtain ⟨h0, h1⟩ := h
    have hc0 : ¬ (k = 4 ∨ l = 4 ∨ (k = 3 ∧ l = 0) ∨ (k = 0 ∧ l = 3)) := by omega
    have hc1 : ¬ (k = 3 ∨ l = 3) := by omega
    have gk0 : ((k : Int) == 0) = false := by simp; omega
    have gk3 : ((k : Int) == 3) = false := by simp; omega
    have gk4 : ((k : Int) == 4) = false := by simp; omega
    have gl3 : ((l : Int) == 3) = false := by simp; omega
    have gl4 : ((l : Int) == 4) = false := by simp; omega
    rw [if_neg hc0, if_neg hc1] at hF
    have HF := Lib.hid hF
    clear hF
    obtain ⟨x, y, hi, lo, z, ax, bx, e, ⟨q1, q2, q3, q4, q5, q6⟩, C1, C2, C3, C4, C5⟩ := FIN (by omega) (by omega)
    have D1 := Lib.hid C1
    have D2 := Lib.hid C2
    have D3 := Lib.hid C3
    have D4 := Lib.hid C4
    have D5 := Lib.hid C5
    clear C1 C2 C3 C4 C5 FIN
    go_enter Tryz.func99, Tryz.ntmps99
    go_wp2_with fail
    refine (K1.out).mono ?_
    rintro _ w' ⟨rfl, rfl⟩
    go_wp2_with fail
    refine (K2.out).mono ?_
    rintro _ w' ⟨rfl, rfl⟩
    go_wp2_with fail
    refine (N1.out).mono ?_
    rintro _ w' ⟨rfl, rfl⟩
    go_wp2_with fail
    refine (N2.out).mono ?_
    rintro _ w' ⟨rfl, rfl⟩
    go_wp2_with fail
    refine (D1.out).mono ?_
    rintro _ w' ⟨rfl, rfl⟩
    go_wp2_with fail
    refine (D2.out).mono ?_
    rintro _ w' ⟨rfl, rfl⟩
    go_wp2_with fail
    refine (D3.out).mono ?_
    rintro _ w' ⟨rfl, rfl⟩
    go_wp2_with fail
    refine (D4.out).mono ?_
    rintro _ w' ⟨rfl, rfl⟩
    go_wp2_with fail
    with_reducible refine (D5.out).mono ?_
    rintro _ w' ⟨rfl, bb⟩
    go_wp2_with fail
    go_ret
    exact ⟨ret1 (by rw [HF.out]), bb⟩

set_option maxRecDepth 100000 in
set_option maxHeartbeats 8000000 in
theorem fp_div {a b : Nat} (ha : a < 18446744073709551616) (hb : b < 18446744073709551616) (w : World) :
    Calls Tryz.prog 100 #[.int .u64 a, .int .u64 b] w (RetW (fdiv a b) w) := by
  have K1 := Lib.hid (fb_kind ha w)
  have K2 := Lib.hid (fb_kind hb w)
  have N1 := Lib.hid (fb_neg ha w)
  have N2 := Lib.hid (fb_neg hb w)
  have NN := Lib.hid (fb_nan w)
  have II := Lib.hid (fb_inf (ng a != ng b) w)
  have c1 := kd_cases a
  have c2 := kd_cases b
  have hF : fdiv a b = if kd a = 4 ∨ kd b = 4 ∨ (kd a = 3 ∧ kd b = 3) ∨ (kd a = 0 ∧ kd b = 0) then NAN else if kd a = 3 ∨ kd b = 0 then sg (ng a != ng b) INF else if kd a = 0 ∨ kd b = 3 then sg (ng a != ng b) 0 else sg (ng a != ng b) (magR (sig a) (sig b) (xpo a - xpo b)) := rfl
  have ZZ : Calls Tryz.prog 151 #[.bool (ng a != ng b), .int .u64 0, .int .i64 0] w (RetW (sg (ng a != ng b) 0) w) := by
    have W0 := fr_word (ng a != ng b) (m := 0) (by omega) (e := 0) (by omega) (by omega) w
    rw [magR_zero] at W0
    exact W0
  have FIN : ∀ (h1 : kd a = 1 ∨ kd a = 2) (h2 : kd b = 1 ∨ kd b = 2), ∃ (x y hf q lo z : Nat) (ax bx e : Int), (q < 18446744073709551616 ∧ -3000 ≤ ax ∧ ax ≤ 3000 ∧ -3000 ≤ bx ∧ bx ≤ 3000 ∧ ax - bx + 1 - 64 = e ∧ (x : Int) / 2 = hf) ∧
      Calls Tryz.prog 159 #[.int .u64 a] w (fun e w' => e = .returned (.tuple #[.int .u64 x, .int .i64 ax]) ∧ w = w') ∧
      Calls Tryz.prog 159 #[.int .u64 b] w (fun e w' => e = .returned (.tuple #[.int .u64 y, .int .i64 bx]) ∧ w = w') ∧
      Calls Tryz.prog 162 #[.int .u64 hf, .int .u64 0, .int .u64 y] w (fun e w' => e = .returned (.tuple #[.int .u64 q, .int .u64 lo, .bool true]) ∧ ∃ n, w' = w.drewN n) ∧
      (∀ w, Calls Tryz.prog 161 #[.int .u64 q, .int .u64 lo] w (fun e w' => e = .returned (.int .u64 z) ∧ w = w')) ∧
      (∀ w, Calls Tryz.prog 151 #[.bool (ng a != ng b), .int .u64 z, .int .i64 e] w (RetW (sg (ng a != ng b) (magR (sig a) (sig b) (xpo a - xpo b))) w)) := by
    intro h1 h2
    have f1 := c1.2.1 (by omega)
    have f2 := c2.2.1 (by omega)
    have p1 := sig_pos h1
    have p2 := sig_pos h2
    have r1 := fxp_range f1
    have r2 := fxp_range f2
    have l1 := fsg_lt a
    have l2 := fsg_lt b
    have g2 := fsg_ge p2
    have M := limb_div_yes ((fsg a / 2 : Nat) : Int) 0 (fsg b : Int) (by unfold U; omega) (by unfold U; omega) (by unfold U; omega) (by omega) w
    have hdv : (((fsg a / 2 : Nat) : Int) * 18446744073709551616 + 0) / (fsg b : Int) = ((fsg a / 2 * 18446744073709551616 / fsg b : Nat) : Int) ∧ (((fsg a / 2 : Nat) : Int) * 18446744073709551616 + 0) % (fsg b : Int) = ((fsg a / 2 * 18446744073709551616 % fsg b : Nat) : Int) := by
      have e : ((fsg a / 2 : Nat) : Int) * 18446744073709551616 + 0 = ((fsg a / 2 * 18446744073709551616 : Nat) : Int) := by omega
      rw [e]
      exact ⟨by rw [Int.natCast_ediv], by rw [Int.natCast_emod]⟩
    rw [hdv.1, hdv.2] at M
    have hq : fsg a / 2 * 18446744073709551616 / fsg b < 18446744073709551616 := by
      rw [Nat.div_lt_iff_lt_mul (by omega)]
      omega
    refine ⟨fsg a, fsg b, fsg a / 2, _, _, _, fxp a, fxp b, _, ⟨hq, by omega, by omega, by omega, by omega, rfl, by omega⟩, fp_full ha f1 w, fp_full hb f2 w, M, fun w => fp_mark hq w, ?_⟩
    intro w
    have W1 := fr_word (ng a != ng b) (mkd_lt hq (decide (fsg a / 2 * 18446744073709551616 % fsg b ≠ 0))) (e := fxp a - fxp b + 1 - 64) (by omega) (by omega) w
    rw [div_round p1 p2] at W1
    exact W1
  generalize magR (sig a) (sig b) (xpo a - xpo b) = V at *
  replace c1 := c1.1
  replace c2 := c2.1
  generalize fdiv a b = F at *
  generalize kd a = k at *
  generalize kd b = l at *
  obtain ⟨sn, hs⟩ : ∃ sn, (ng a != ng b) = sn := ⟨_, rfl⟩
  rw [hs] at hF II FIN ZZ
  generalize ng a = n1 at *
  generalize ng b = n2 at *
  have hs2 : (!(n1 == n2)) = sn := hs
  have HZ := Lib.hid ZZ
  clear ZZ
  have hcl : (k = 4) ∨ (k ≠ 4 ∧ l = 4) ∨ (k = 3 ∧ l = 3) ∨ (k = 0 ∧ l = 0) ∨ (k = 3 ∧ (l ≠ 3 ∧ l ≠ 4)) ∨ ((k ≠ 0 ∧ k ≠ 3 ∧ k ≠ 4) ∧ l = 0) ∨ (k = 0 ∧ (l ≠ 0 ∧ l ≠ 4)) ∨ ((k ≠ 0 ∧ k ≠ 3 ∧ k ≠ 4) ∧ l = 3) ∨ ((k ≠ 0 ∧ k ≠ 3 ∧ k ≠ 4) ∧ (l ≠ 0 ∧ l ≠ 3 ∧ l ≠ 4)) := by omega
  rcases hcl with h | h | h | h | h | h | h | h | h
  · have h0 := h
    subst h0
    rw [if_pos (.inl rfl)] at hF
    have HF := Lib.hid hF
    clear hF
    clear FIN
    go_enter Tryz.func100, Tryz.ntmps100
    go_wp2_with fail
    refine (K1.out).mono ?_
    rintro _ w' ⟨rfl, rfl⟩
    go_wp2_with fail
    refine (K2.out).mono ?_
    rintro _ w' ⟨rfl, rfl⟩
    go_wp2_with fail
    refine (N1.out).mono ?_
    rintro _ w' ⟨rfl, rfl⟩
    go_wp2_with fail
    refine (N2.out).mono ?_
    rintro _ w' ⟨rfl, rfl⟩
    go_wp2_with fail
    refine NN.out.mono ?_
    rintro _ w' ⟨rfl, rfl⟩
    go_wp2_with fail
    go_ret
    exact ⟨ret1 (by rw [HF.out]), Below.refl _ _⟩
  · obtain ⟨h0, h1⟩ := h
    have gk4 : ((k : Int) == 4) = false := by simp; omega
    subst h1
    rw [if_pos (.inr (.inl rfl))] at hF
    have HF := Lib.hid hF
    clear hF
    clear FIN
    go_enter Tryz.func100, Tryz.ntmps100
    go_wp2_with fail
    refine (K1.out).mono ?_
    rintro _ w' ⟨rfl, rfl⟩
    go_wp2_with fail
    refine (K2.out).mono ?_
    rintro _ w' ⟨rfl, rfl⟩
    go_wp2_with fail
    refine (N1.out).mono ?_
    rintro _ w' ⟨rfl, rfl⟩
    go_wp2_with fail
    refine (N2.out).mono ?_
    rintro _ w' ⟨rfl, rfl⟩
    go_wp2_with fail
    refine NN.out.mono ?_
    rintro _ w' ⟨rfl, rfl⟩
    go_wp2_with fail
    go_ret
    exact ⟨ret1 (by rw [HF.out]), Below.refl _ _⟩
  · obtain ⟨h0, h1⟩ := h
    subst h0
    subst h1
    rw [if_pos (.inr (.inr (.inl ⟨rfl, rfl⟩)))] at hF
    have HF := Lib.hid hF
    clear hF
    clear FIN
    go_enter Tryz.func100, Tryz.ntmps100
    go_wp2_with fail
    refine (K1.out).mono ?_
    rintro _ w' ⟨rfl, rfl⟩
    go_wp2_with fail
    refine (K2.out).mono ?_
    rintro _ w' ⟨rfl, rfl⟩
    go_wp2_with fail
    refine (N1.out).mono ?_
    rintro _ w' ⟨rfl, rfl⟩
    go_wp2_with fail
    refine (N2.out).mono ?_
    rintro _ w' ⟨rfl, rfl⟩
    go_wp2_with fail
    refine NN.out.mono ?_
    rintro _ w' ⟨rfl, rfl⟩
    go_wp2_with fail
    go_ret
    exact ⟨ret1 (by rw [HF.out]), Below.refl _ _⟩
  · obtain ⟨h0, h1⟩ := h
    subst h0
    subst h1
    rw [if_pos (.inr (.inr (.inr ⟨rfl, rfl⟩)))] at hF
    have HF := Lib.hid hF
    clear hF
    clear FIN
    go_enter Tryz.func100, Tryz.ntmps100
    go_wp2_with fail
    refine (K1.out).mono ?_
    rintro _ w' ⟨rfl, rfl⟩
    go_wp2_with fail
    refine (K2.out).mono ?_
    rintro _ w' ⟨rfl, rfl⟩
    go_wp2_with fail
    refine (N1.out).mono ?_
    rintro _ w' ⟨rfl, rfl⟩
    go_wp2_with fail
    refine (N2.out).mono ?_
    rintro _ w' ⟨rfl, rfl⟩
    go_wp2_with fail
    refine NN.out.mono ?_
    rintro _ w' ⟨rfl, rfl⟩
    go_wp2_with fail
    go_ret
    exact ⟨ret1 (by rw [HF.out]), Below.refl _ _⟩
  · obtain ⟨h0, h1⟩ := h
    have hc0 : ¬ (k = 4 ∨ l = 4 ∨ (k = 3 ∧ l = 3) ∨ (k = 0 ∧ l = 0)) := by omega
    subst h0
    have gl3 : ((l : Int) == 3) = false := by simp; omega
    have gl4 : ((l : Int) == 4) = false := by simp; omega
    rw [if_neg hc0, if_pos (.inl rfl)] at hF
    have HF := Lib.hid hF
    clear hF
    clear FIN
    go_enter Tryz.func100, Tryz.ntmps100
    go_wp2_with fail
    refine (K1.out).mono ?_
    rintro _ w' ⟨rfl, rfl⟩
    go_wp2_with fail
    refine (K2.out).mono ?_
    rintro _ w' ⟨rfl, rfl⟩
    go_wp2_with fail
    refine (N1.out).mono ?_
    rintro _ w' ⟨rfl, rfl⟩
    go_wp2_with fail
    refine (N2.out).mono ?_
    rintro _ w' ⟨rfl, rfl⟩
    go_wp2_with fail
    refine II.out.mono ?_
    rintro _ w' ⟨rfl, rfl⟩
    go_wp2_with fail
    go_ret
    exact ⟨ret1 (by rw [HF.out]), Below.refl _ _⟩
  · obtain ⟨h0, h1⟩ := h
    have hc0 : ¬ (k = 4 ∨ l = 4 ∨ (k = 3 ∧ l = 3) ∨ (k = 0 ∧ l = 0)) := by omega
    have gk0 : ((k : Int) == 0) = false := by simp; omega
    have gk3 : ((k : Int) == 3) = false := by simp; omega
    have gk4 : ((k : Int) == 4) = false := by simp; omega
    subst h1
    rw [if_neg hc0, if_pos (.inr rfl)] at hF
    have HF := Lib.hid hF
    clear hF
    clear FIN
    go_enter Tryz.func100, Tryz.ntmps100
    go_wp2_with fail
    refine (K1.out).mono ?_
    rintro _ w' ⟨rfl, rfl⟩
    go_wp2_with fail
    refine (K2.out).mono ?_
    rintro _ w' ⟨rfl, rfl⟩
    go_wp2_with fail
    refine (N1.out).mono ?_
    rintro _ w' ⟨rfl, rfl⟩
    go_wp2_with fail
    refine (N2.out).mono ?_
    rintro _ w' ⟨rfl, rfl⟩
    go_wp2_with fail
    refine II.out.mono ?_
    rintro _ w' ⟨rfl, rfl⟩
    go_wp2_with fail
    go_ret
    exact ⟨ret1 (by rw [HF.out]), Below.refl _ _⟩
  · obtain ⟨h0, h1⟩ := h
    have hc0 : ¬ (k = 4 ∨ l = 4 ∨ (k = 3 ∧ l = 3) ∨ (k = 0 ∧ l = 0)) := by omega
    have hc1 : ¬ (k = 3 ∨ l = 0) := by omega
    subst h0
    have gl0 : ((l : Int) == 0) = false := by simp; omega
    have gl4 : ((l : Int) == 4) = false := by simp; omega
    rw [if_neg hc0, if_neg hc1, if_pos (.inl rfl)] at hF
    have HF := Lib.hid hF
    clear hF
    clear FIN
    go_enter Tryz.func100, Tryz.ntmps100
    go_wp2_with fail
    refine (K1.out).mono ?_
    rintro _ w' ⟨rfl, rfl⟩
    go_wp2_with fail
    refine (K2.out).mono ?_
    rintro _ w' ⟨rfl, rfl⟩
    go_wp2_with fail
    refine (N1.out).mono ?_
    rintro _ w' ⟨rfl, rfl⟩
    go_wp2_with fail
    refine (N2.out).mono ?_
    rintro _ w' ⟨rfl, rfl⟩
    go_wp2_with fail
    with_reducible refine (HZ.out).mono ?_
    rintro _ w' ⟨rfl, bb⟩
    go_wp2_with fail
    go_ret
    exact ⟨ret1 (by rw [HF.out]), bb⟩
  · obtain ⟨h0, h1⟩ := h
    have hc0 : ¬ (k = 4 ∨ l = 4 ∨ (k = 3 ∧ l = 3) ∨ (k = 0 ∧ l = 0)) := by omega
    have hc1 : ¬ (k = 3 ∨ l = 0) := by omega
    have gk0 : ((k : Int) == 0) = false := by simp; omega
    have gk3 : ((k : Int) == 3) = false := by simp; omega
    have gk4 : ((k : Int) == 4) = false := by simp; omega
    subst h1
    rw [if_neg hc0, if_neg hc1, if_pos (.inr rfl)] at hF
    have HF := Lib.hid hF
    clear hF
    clear FIN
    go_enter Tryz.func100, Tryz.ntmps100
    go_wp2_with fail
    refine (K1.out).mono ?_
    rintro _ w' ⟨rfl, rfl⟩
    go_wp2_with fail
    refine (K2.out).mono ?_
    rintro _ w' ⟨rfl, rfl⟩
    go_wp2_with fail
    refine (N1.out).mono ?_
    rintro _ w' ⟨rfl, rfl⟩
    go_wp2_with fail
    refine (N2.out).mono ?_
    rintro _ w' ⟨rfl, rfl⟩
    go_wp2_with fail
    with_reducible refine (HZ.out).mono ?_
    rintro _ w' ⟨rfl, bb⟩
    go_wp2_with fail
    go_ret
    exact ⟨ret1 (by rw [HF.out]), bb⟩
  · obtain ⟨h0, h1⟩ := h
    have hc0 : ¬ (k = 4 ∨ l = 4 ∨ (k = 3 ∧ l = 3) ∨ (k = 0 ∧ l = 0)) := by omega
    have hc1 : ¬ (k = 3 ∨ l = 0) := by omega
    have hc2 : ¬ (k = 0 ∨ l = 3) := by omega
    have gk0 : ((k : Int) == 0) = false := by simp; omega
    have gk3 : ((k : Int) == 3) = false := by simp; omega
    have gk4 : ((k : Int) == 4) = false := by simp; omega
    have gl0 : ((l : Int) == 0) = false := by simp; omega
    have gl3 : ((l : Int) == 3) = false := by simp; omega
    have gl4 : ((l : Int) == 4) = false := by simp; omega
    rw [if_neg hc0, if_neg hc1, if_neg hc2] at hF
    have HF := Lib.hid hF
    clear hF
    obtain ⟨x, y, hf, q, lo, z, ax, bx, e, ⟨q1, q2, q3, q4, q5, q6, q7⟩, C1, C2, C3, C4, C5⟩ := FIN (by omega) (by omega)
    have D1 := Lib.hid C1
    have D2 := Lib.hid C2
    have D3 := Lib.hid C3
    have D4 := Lib.hid C4
    have D5 := Lib.hid C5
    clear C1 C2 C3 C4 C5 FIN
    go_enter Tryz.func100, Tryz.ntmps100
    go_wp2_with fail
    refine (K1.out).mono ?_
    rintro _ w' ⟨rfl, rfl⟩
    go_wp2_with fail
    refine (K2.out).mono ?_
    rintro _ w' ⟨rfl, rfl⟩
    go_wp2_with fail
    refine (N1.out).mono ?_
    rintro _ w' ⟨rfl, rfl⟩
    go_wp2_with fail
    refine (N2.out).mono ?_
    rintro _ w' ⟨rfl, rfl⟩
    go_wp2_with fail
    refine (D1.out).mono ?_
    rintro _ w' ⟨rfl, rfl⟩
    go_wp2_with fail
    refine (D2.out).mono ?_
    rintro _ w' ⟨rfl, rfl⟩
    go_wp2_with fail
    refine D3.out.mono ?_
    rintro _ w' ⟨rfl, nd, rfl⟩
    have b0 := below_drewN w nd
    generalize w.drewN nd = v at *
    go_wp2_with fail
    refine (D4.out _).mono ?_
    rintro _ w' ⟨rfl, rfl⟩
    go_wp2_with fail
    with_reducible refine (D5.out _).mono ?_
    rintro _ w' ⟨rfl, bb⟩
    go_wp2_with fail
    go_ret
    exact ⟨ret1 (by rw [HF.out]), bbw b0 bb⟩

end Go.Proofs.YtibgpeaplmcogaaGreatDoor

namespace Go.Proofs.YtibgpeaplmcogaaGreatDoor
set_option maxRecDepth 100000
open Go.RowKit
set_option linter.unusedVariables false
set_option linter.unusedSimpArgs false

theorem inf_kd : kd INF = 3 := by decide +kernel
theorem inf_ng : ng INF = false := by decide +kernel
theorem sg_false (v : Nat) : sg false v = v := rfl
theorem rtx_even (b : Nat) : rtx b % 2 = 0 := by unfold rtx; split <;> omega
theorem tmod_even {X : Int} (h : X % 2 = 0) : (Int.tmod X 2 != 0) = false := by
  have : Int.tmod X 2 = 0 := Int.tmod_eq_zero_of_dvd (Int.dvd_of_emod_eq_zero h)
  rw [this]; rfl
theorem tmod_odd {X : Int} (h : ¬ X % 2 = 0) : (Int.tmod X 2 != 0) = true := by
  have : ¬ Int.tmod X 2 = 0 := fun h2 => h (Int.emod_eq_zero_of_dvd (Int.dvd_of_tmod_eq_zero h2))
  simpa using this
/-- the root and what is left, as names -/
theorem root_names {m : Nat} (h1 : 4611686018427387904 ≤ m) (h2 : m < 18446744073709551616) : ∃ R T : Nat, R < 18446744073709551616 ∧ 55 ≤ blen R ∧ (∀ e, magR (mkd R (decide (T ≠ 0))) 1 e = rtM (m * 281474976710656) e) ∧
    ∀ w, Calls Tryz.prog 163 #[.int .u64 m] w fun e w' => e = .returned (.tuple #[.int .u64 R, .int .u64 T]) ∧ w = w' := by
  obtain ⟨R, hR⟩ : ∃ R, rt (m * 281474976710656) = R := ⟨_, rfl⟩
  obtain ⟨g1, g2⟩ := rt_spec (m * 281474976710656)
  have C := fun w => fp_root h2 w
  rw [hR] at g1 g2 C
  have hb := rt_blen h1 g2
  refine ⟨R, m * 281474976710656 - R * R, ?_, hb, ?_, C⟩
  · rcases Nat.lt_or_ge R 18446744073709551616 with h | h
    · exact h
    · exfalso
      have := Nat.mul_le_mul h h
      omega
  · intro e
    rw [rtM_of e g1 g2, magM_mkd _ _ hb]
    congr 1
    rw [Bool.eq_iff_iff]; simp only [decide_eq_true_eq]; omega
theorem sqrt_calls {b : Nat} (hf : fld b < 2047) (pb : 0 < sig b) (w : World) : ∃ (R T Z : Nat) (hd e9 : Int), (R < 18446744073709551616 ∧ -569 ≤ hd ∧ hd ≤ 486 ∧ Int.tdiv (rtx b) 2 = hd ∧ hd + 32 - 56 = e9 ∧ -1138 ≤ rtx b ∧ rtx b ≤ 972 ∧ rtw b < 18446744073709551616) ∧
    Calls Tryz.prog 163 #[.int .u64 (rtw b)] w (fun e w' => e = .returned (.tuple #[.int .u64 R, .int .u64 T]) ∧ w = w') ∧
    Calls Tryz.prog 161 #[.int .u64 R, .int .u64 T] w (fun e w' => e = .returned (.int .u64 Z) ∧ w = w') ∧
    Calls Tryz.prog 151 #[.bool false, .int .u64 Z, .int .i64 e9] w (RetW (fsqM b) w) := by
  obtain ⟨q1, q2⟩ := rtw_ge pb
  obtain ⟨R, T, hR, hb, hm, hC⟩ := root_names q1 q2
  have r1 := fxp_range hf
  have ev := rtx_even b
  have rr : -1138 ≤ rtx b ∧ rtx b ≤ 972 := by unfold rtx; split <;> omega
  obtain ⟨hd, hhd⟩ : ∃ hd : Int, rtx b = hd * 2 := ⟨rtx b / 2, by omega⟩
  refine ⟨R, T, mkd R (decide (T ≠ 0)), hd, hd + 32 - 56, ⟨hR, by omega, by omega, by rw [hhd]; exact Int.mul_tdiv_cancel _ (by decide), rfl, by omega, by omega, q2⟩, hC w, fp_mark hR w, ?_⟩
  have WO := fr_word false (mkd_lt hR (decide (T ≠ 0))) (e := hd + 32 - 56) (by omega) (by omega) w
  have hV := hm (hd + 32 - 56)
  rw [show hd + 32 - 56 = rtx b / 2 - 24 by omega, root_round pb, show rtx b / 2 - 24 = hd + 32 - 56 by omega] at hV
  rw [hV, sg_false] at WO
  exact WO

set_option maxRecDepth 100000 in
set_option maxHeartbeats 8000000 in
theorem fp_sqrt {b : Nat} (hb : b < 18446744073709551616) (w : World) :
    Calls Tryz.prog 101 #[.int .u64 b] w (RetW (fsqrt b) w) := by
  have K1 := Lib.hid (fb_kind hb w)
  have N1 := fb_neg hb w
  have NN := Lib.hid (fb_nan w)
  have I0 := fb_inf false w
  rw [sg_false] at I0
  have II := Lib.hid I0
  clear I0
  have c1 := kd_cases b
  have hF : fsqrt b = if kd b = 0 then b else if kd b = 4 ∨ ng b = true then NAN else if kd b = 3 then b else fsqM b := rfl
  by_cases h0 : kd b = 0
  · rw [if_pos h0] at hF
    rw [h0] at K1
    rw [hF]
    clear hF N1
    go_enter Tryz.func101, Tryz.ntmps101
    go_wp2_with fail
    refine K1.out.mono ?_
    rintro _ w' ⟨rfl, rfl⟩
    go_wp2_with fail
    go_ret
    exact ⟨rfl, Below.refl _ _⟩
  · by_cases hI : b = INF
    · have h3 := inf_kd
      have h4 := inf_ng
      rw [← hI] at h3 h4
      rw [if_neg h0, if_neg (by rw [h3, h4]; simp), if_pos h3] at hF
      rw [hF]
      rw [← hI] at II
      rw [h3] at K1
      clear hF N1 hI
      go_enter Tryz.func101, Tryz.ntmps101
      go_wp2_with fail
      refine K1.out.mono ?_
      rintro _ w' ⟨rfl, rfl⟩
      go_wp2_with fail
      refine II.out.mono ?_
      rintro _ w' ⟨rfl, rfl⟩
      go_wp2_with fail
      go_ret
      exact ⟨rfl, Below.refl _ _⟩
    · have hI2 : ((b : Int) == INF) = false := by simp; omega
      have g0 : ((kd b : Int) == 0) = false := by simp; omega
      by_cases h4 : kd b = 4
      · rw [if_neg h0, if_pos (.inl h4)] at hF
        rw [hF]
        rw [h4] at K1
        clear hF N1 g0
        generalize INF = I at *
        go_enter Tryz.func101, Tryz.ntmps101
        go_wp2_with fail
        refine K1.out.mono ?_
        rintro _ w' ⟨rfl, rfl⟩
        go_wp2_with fail
        refine II.out.mono ?_
        rintro _ w' ⟨rfl, rfl⟩
        go_wp2_with fail
        refine NN.out.mono ?_
        rintro _ w' ⟨rfl, rfl⟩
        go_wp2_with fail
        go_ret
        exact ⟨rfl, Below.refl _ _⟩
      · have g4 : ((kd b : Int) == 4) = false := by simp; omega
        by_cases hn : ng b = true
        · rw [if_neg h0, if_pos (.inr hn)] at hF
          rw [hF]
          rw [hn] at N1
          have HN := Lib.hid N1
          clear hF N1 c1
          generalize INF = I at *
          generalize kd b = k at *
          go_enter Tryz.func101, Tryz.ntmps101
          go_wp2_with fail
          refine K1.out.mono ?_
          rintro _ w' ⟨rfl, rfl⟩
          go_wp2_with fail
          refine II.out.mono ?_
          rintro _ w' ⟨rfl, rfl⟩
          go_wp2_with fail
          refine HN.out.mono ?_
          rintro _ w' ⟨rfl, rfl⟩
          go_wp2_with fail
          refine NN.out.mono ?_
          rintro _ w' ⟨rfl, rfl⟩
          go_wp2_with fail
          go_ret
          exact ⟨rfl, Below.refl _ _⟩
        · have h3 : kd b ≠ 3 := by
            intro h3
            apply hI
            have := kd3 hb h3
            rw [show ng b = false by simpa using hn] at this
            exact this
          rw [if_neg h0, if_neg (by simp [h4]; simpa using hn), if_neg h3] at hF
          rw [hF]
          rw [show ng b = false by simpa using hn] at N1
          have hk : kd b = 1 ∨ kd b = 2 := by omega
          have hf := c1.2.1 (by omega)
          have pb := sig_pos hk
          have FU := Lib.hid (fp_full hb hf w)
          obtain ⟨R, T, Z, hd, e9, ⟨hR, d1, d2, ed, he9, x1, x2, hrw⟩, RO0, MA0, WO0⟩ := sqrt_calls hf pb w
          have r1 := fxp_range hf
          have hl := fsg_lt b
          have hX : rtx b = if fxp b % 2 = 0 then fxp b else fxp b + 1 := rfl
          have hW : rtw b = if fxp b % 2 = 0 then fsg b else fsg b / 2 := rfl
          have RO := Lib.hid RO0
          have M2 := Lib.hid MA0
          have HWO := Lib.hid WO0
          have HN := Lib.hid N1
          clear RO0 MA0 WO0 N1
          generalize fsqM b = V at *
          generalize INF = I at *
          generalize kd b = k at *
          generalize fsg b = G at *
          generalize fxp b = X at *
          generalize rtw b = RW at *
          generalize rtx b = RX at *
          have HX := Lib.hid hX
          have HW := Lib.hid hW
          clear hF c1 hX hW pb hk hf hn
          go_enter Tryz.func101, Tryz.ntmps101
          go_wp2_with fail
          refine K1.out.mono ?_
          rintro _ w' ⟨rfl, rfl⟩
          go_wp2_with fail
          refine II.out.mono ?_
          rintro _ w' ⟨rfl, rfl⟩
          go_wp2_with fail
          refine HN.out.mono ?_
          rintro _ w' ⟨rfl, rfl⟩
          go_wp2_with fail
          refine FU.out.mono ?_
          rintro _ w' ⟨rfl, rfl⟩
          go_upto_if 30 with (fail)
          go_cut [4, 5] (fun s4 s5 wx => s4 = .int .u64 RW ∧ s5 = .int .i64 RX ∧ w = wx)
          case first =>
            by_cases hx : X % 2 = 0
            · have t1 := tmod_even hx
              have h1 := HX.out
              have h2 := HW.out
              rw [if_pos hx] at h1 h2
              clear HX HW
              subst h1 h2
              go_wp2_with fail
              go_meet
              exact ⟨rfl, rfl, rfl⟩
            · have t1 := tmod_odd hx
              have h1 := HX.out
              have h2 := HW.out
              rw [if_neg hx] at h1 h2
              have HX1 := Lib.hid h1
              have HW1 := Lib.hid h2
              clear HX HW h1 h2
              go_wp2_with fail
              go_meet
              exact ⟨vint (by rw [HW1.out]; omega), vint (by rw [HX1.out]), rfl⟩
          case rest =>
          obtain ⟨rfl, rfl, rfl⟩ := hcut
          clear HX HW
          go_wp2_with fail
          refine RO.out.mono ?_
          rintro _ w' ⟨rfl, rfl⟩
          go_wp2_with fail
          refine M2.out.mono ?_
          rintro _ w' ⟨rfl, rfl⟩
          go_wp2_with fail
          with_reducible refine HWO.out.mono ?_
          rintro _ w' ⟨rfl, b1⟩
          go_wp2_with fail
          go_ret
          exact ⟨rfl, b1⟩

end Go.Proofs.YtibgpeaplmcogaaGreatDoor

namespace Go.Proofs.YtibgpeaplmcogaaGreatDoor
set_option maxRecDepth 100000
open Go.RowKit
set_option linter.unusedVariables false
set_option linter.unusedSimpArgs false

end Go.Proofs.YtibgpeaplmcogaaGreatDoor

namespace Go.Proofs.YtibgpeaplmcogaaGreatDoor
set_option maxRecDepth 100000
open Go.RowKit
set_option linter.unusedVariables false
set_option linter.unusedSimpArgs false

end Go.Proofs.YtibgpeaplmcogaaGreatDoor

namespace Go.Proofs.YtibgpeaplmcogaaGreatDoor
set_option maxRecDepth 100000
open Go.RowKit
set_option linter.unusedVariables false
set_option linter.unusedSimpArgs false

end Go.Proofs.YtibgpeaplmcogaaGreatDoor

namespace Go.Proofs.YtibgpeaplmcogaaGreatDoor
set_option maxRecDepth 100000
open Go.RowKit
set_option linter.unusedVariables false
set_option linter.unusedSimpArgs false

end Go.Proofs.YtibgpeaplmcogaaGreatDoor

namespace Go.Proofs.YtibgpeaplmcogaaGreatDoor
set_option maxRecDepth 100000
open Go.RowKit
set_option linter.unusedVariables false
set_option linter.unusedSimpArgs false

theorem flp_mant (b : Nat) : mant (flp b) = mant b := by unfold mant flp; omega
theorem flp_ng {b : Nat} (hb : b < 18446744073709551616) : ng (flp b) = !(ng b) := by
  unfold ng flp
  rw [Bool.eq_iff_iff]
  simp
  omega
theorem flp_vl (b : Nat) : vl (flp b) = vl b := by unfold vl; rw [flp_mant]
theorem fsumF_lt (a b : Nat) : fsumF a b < 18446744073709551616 := by
  unfold fsumF
  split
  · exact sg_lt (mag_le _ _)
  · split
    · omega
    · split
      · exact sg_lt (mag_le _ _)
      · exact sg_lt (mag_le _ _)
theorem fadd_lt {a b : Nat} (ha : a < 18446744073709551616) (hb : b < 18446744073709551616) : fadd a b < 18446744073709551616 := by
  have := fsumF_lt a b
  unfold fadd NAN
  split
  · omega
  · split
    · omega
    · split <;> omega

end Go.Proofs.YtibgpeaplmcogaaGreatDoor

namespace Go.Proofs.YtibgpeaplmcogaaGreatDoor
set_option maxRecDepth 100000
open Go.RowKit
set_option linter.unusedVariables false
set_option linter.unusedSimpArgs false

/-! ### plain -/
theorem magR_leI (p q : Nat) (e : Int) : magR p q e ≤ INF := mag_le _ _
theorem bne_false' (x : Bool) : (x != false) = x := by cases x <;> rfl
theorem fmul_lt (a b : Nat) : fmul a b < 18446744073709551616 := by
  unfold fmul
  split
  · unfold NAN; omega
  · split
    · exact sg_lt (Nat.le_refl _)
    · exact sg_lt (magR_leI _ _ _)
/-! ### the root of a rounded square -/
/-! ### the walks -/
end Go.Proofs.YtibgpeaplmcogaaGreatDoor

namespace Go.Proofs.YtibgpeaplmcogaaGreatDoor
set_option maxRecDepth 100000
open Go.RowKit
set_option linter.unusedVariables false
set_option linter.unusedSimpArgs false

end Go.Proofs.YtibgpeaplmcogaaGreatDoor

namespace Go.Proofs.YtibgpeaplmcogaaGreatDoor
set_option maxRecDepth 100000
open Go.RowKit
set_option linter.unusedVariables false
set_option linter.unusedSimpArgs false

end Go.Proofs.YtibgpeaplmcogaaGreatDoor

namespace Go.Proofs.YtibgpeaplmcogaaGreatDoor
set_option maxRecDepth 100000
open Go.RowKit
set_option linter.unusedVariables false
set_option linter.unusedSimpArgs false

/-- the number 1 in units of the least double -/
@[irreducible] def OO : Nat := 2 ^ K74
theorem OO_eq : OO = 2 ^ K74 := by unfold OO; rfl
theorem OO_pos : 0 < OO := by rw [OO_eq]; exact Nat.two_pow_pos _
theorem mag_upto {p d c : Nat} (hd : 0 < d) (hc : c < INF) (h : p ≤ fv c * d) : mag p d ≤ c := by
  have := mag_mono (p := p) (d := d) (p' := fv c) (d' := 1) hd (by omega) (by omega)
  rw [mag_fv hc] at this
  exact this
theorem fv_mono {a b : Nat} (hb : b < INF) (h : a ≤ b) : fv a ≤ fv b := by
  rcases Nat.lt_or_eq_of_le h with h1 | h1
  · exact Nat.le_of_lt (fv_lt (by omega) hb h1)
  · rw [h1]; exact Nat.le_refl _
/-! ### what layers 10 and 13 do, plainly -/
def fint (n : Int) : Nat := sg (decide (n < 0)) (magR n.natAbs 1 0)
def fscale (b : Nat) (k : Int) : Nat := if fld b < 2047 then sg (ng b) (magR (sig b) 1 (xpo b + k)) else cln b
/-- the integer nearest to a finite double -/
def fnv (b : Nat) : Int := sI (ng b) (rdiv (vl b) OO)
def fless (a b : Nat) : Bool :=
  if kd a = 4 ∨ kd b = 4 then false else if ng a = true ∧ ng b = true then decide (b < a) else if ng a = true then (decide (a ≠ 9223372036854775808) || decide (b ≠ 0)) else (!(ng b) && decide (a < b))
/-- where a word stands in the order of the values: its digits, with its sign -/
def rk (b : Nat) : Int := sI (ng b) (mant b)
def isn (b : Nat) : Bool := !(decide (kd b = 4))
theorem fless_rk {a b : Nat} (ha : a < 18446744073709551616) (hb : b < 18446744073709551616) : fless a b = (isn a && isn b && decide (rk a < rk b)) := by
  unfold fless isn
  by_cases h1 : kd a = 4
  · rw [if_pos (.inl h1)]; simp [h1]
  by_cases h2 : kd b = 4
  · rw [if_pos (.inr h2)]; simp [h2]
  rw [if_neg (by omega)]
  simp only [h1, h2, decide_false, Bool.not_false, Bool.true_and]
  unfold rk sI ng mant
  by_cases h3 : 9223372036854775808 ≤ a <;> by_cases h4 : 9223372036854775808 ≤ b
  · rw [decide_eq_true h3, decide_eq_true h4]
    simp
    omega
  · rw [decide_eq_true h3, decide_eq_false h4]
    simp
    rw [Bool.eq_iff_iff]
    simp
    omega
  · rw [decide_eq_false h3, decide_eq_true h4]
    simp
    omega
  · rw [decide_eq_false h3, decide_eq_false h4]
    simp
    omega
/-! ### infinities stand beyond all others -/
/-! ### the nearest integer -/
def nok (b : Nat) : Bool := decide (fld b < 2047) && decide ((blen (sig b) : Int) + xpo b ≤ 62)
def nrv (b : Nat) : Int := if nok b = true then fnv b else 0
theorem fnv_up {b : Nat} (f : fld b < 2047) {x : Nat} (h : xpo b = x) : fnv b = sI (ng b) (sig b * 2 ^ x) := by
  have hK := K74_eq
  unfold fnv
  congr 1
  rw [vl_eq, OO_eq, show (xpo b + 1074).toNat = x + K74 by omega, Nat.pow_add, ← Nat.mul_assoc, rdiv_exact _ (Nat.two_pow_pos _)]
theorem fnv_dn {b : Nat} (f : fld b < 2047) {k : Nat} (h : xpo b = -(k : Int)) : fnv b = sI (ng b) (rdiv (sig b) (2 ^ k)) := by
  have hK := K74_eq
  obtain ⟨h1, h2⟩ := xpo_range f
  unfold fnv
  congr 1
  rw [vl_eq, OO_eq, show (xpo b + 1074).toNat = K74 - k by omega, show K74 = k + (K74 - k) by omega, Nat.pow_add, show k + (K74 - k) - k = K74 - k by omega, rdiv_scale _ _ (Nat.two_pow_pos _)]
/-- the nearest integer as the significand of a least double -/
theorem near_word {m k : Nat} (hm : m < 9007199254740992) (hk : 1 ≤ k) : magR m 1 (-(k : Int) - 1074) < 18446744073709551616 ∧ fld (magR m 1 (-(k : Int) - 1074)) < 2047 ∧ sig (magR m 1 (-(k : Int) - 1074)) = rdiv m (2 ^ k) ∧ ng (magR m 1 (-(k : Int) - 1074)) = false := by
  have e : magR m 1 (-(k : Int) - 1074) = mag m (2 ^ k) := by
    unfold magR
    rw [up_zero (by omega), show dn (-(k : Int) - 1074) = k by unfold dn; omega, Nat.pow_zero, Nat.mul_one, Nat.one_mul]
  rw [e]
  have hB := B52_eq
  have hI := INF_lit
  have h2 : 2 ^ 1 ≤ 2 ^ k := Nat.pow_le_pow_right (by omega) hk
  have hp : 0 < 2 ^ k := Nat.two_pow_pos k
  have hfB : fv B52 = B52 := by
    unfold fv
    rw [Nat.div_self B52_pos, Nat.mod_self]
    simp
  have h3 : mag m (2 ^ k) ≤ B52 := by
    refine mag_upto hp (by omega) ?_
    rw [hfB]
    have : B52 * 2 ^ 1 ≤ B52 * 2 ^ k := Nat.mul_le_mul_left _ h2
    omega
  have h4 := fv_mag m hp (by omega : mag m (2 ^ k) < INF)
  have hq : m / 2 ^ k < 2 ^ 53 := Nat.lt_of_le_of_lt (Nat.div_le_self _ _) (by omega)
  have hu : ulp m (2 ^ k) = 0 := by
    unfold ulp
    have := blen_le hq
    omega
  rw [hu, Nat.pow_zero, Nat.mul_one, Nat.mul_one] at h4
  rw [← h4]
  generalize mag m (2 ^ k) = M at *
  have hM : mant M = M := by unfold mant; omega
  have hf : fld M ≤ 1 := by
    have := (mant_fld M).1
    rw [hM] at this
    rw [← this, hB]
    omega
  have hv := fv_mant M
  rw [hM] at hv
  have hx : xpo M = -1074 := by unfold xpo; split <;> omega
  rw [hx] at hv
  refine ⟨by omega, by omega, ?_, by unfold ng; exact decide_eq_false (by omega)⟩
  rw [hv]
  simp
theorem near_fits {b : Nat} (h : nok b = true) : (∀ x : Nat, xpo b = x → sig b * 2 ^ x < 4611686018427387904) ∧ (∀ k : Nat, 1 ≤ k → xpo b = -(k : Int) → rdiv (sig b) (2 ^ k) ≤ 4503599627370496) := by
  unfold nok at h
  rw [Bool.and_eq_true, decide_eq_true_eq, decide_eq_true_eq] at h
  have hs := sig_lt b
  refine ⟨fun x hx => ?_, fun k hk hx => ?_⟩
  · have h1 := blen_lt (sig b)
    have h2 : 2 ^ (blen (sig b) + x) ≤ 2 ^ 62 := Nat.pow_le_pow_right (by omega) (by omega)
    have h3 : sig b * 2 ^ x < 2 ^ blen (sig b) * 2 ^ x := (Nat.mul_lt_mul_right (Nat.two_pow_pos x)).2 h1
    rw [Nat.pow_add] at h2
    omega
  · have h2 : 2 ^ 1 ≤ 2 ^ k := Nat.pow_le_pow_right (by omega) hk
    have := rdiv_mono (p := sig b) (d := 2 ^ k) (p' := 4503599627370496) (d' := 1) (Nat.two_pow_pos k) (by omega) (by
      have : 4503599627370496 * 2 ^ 1 ≤ 4503599627370496 * 2 ^ k := Nat.mul_le_mul_left _ h2
      omega)
    rw [rdiv_one] at this
    exact this
theorem nok_of {b : Nat} (f : fld b < 2047) (h : (fnv b).natAbs ≤ 1077) : nok b = true := by
  unfold nok
  rw [Bool.and_eq_true, decide_eq_true_eq, decide_eq_true_eq]
  refine ⟨f, ?_⟩
  have hs := sig_lt b
  have hb : blen (sig b) ≤ 53 := blen_le (by omega)
  rcases Int.lt_or_le (xpo b) 0 with hl | hl
  · omega
  · obtain ⟨x, hx⟩ : ∃ x : Nat, xpo b = x := ⟨(xpo b).toNat, by omega⟩
    rw [fnv_up f hx, sI_natAbs] at h
    rw [hx]
    rcases Nat.eq_zero_or_pos (sig b) with h0 | h0
    · exfalso
      unfold xpo at hl
      unfold sig at h0
      split at hl
      · omega
      · rename_i h9
        rw [if_neg h9] at h0
        omega
    · have := blen_mul_pow h0 x
      have h3 : blen (sig b * 2 ^ x) ≤ 11 := blen_le (by omega)
      omega
/-! ### times powers of 2 -/
theorem scale_clamp {b : Nat} (f : fld b < 2047) (k : Int) {L : Int} (hL : 2200 ≤ L) : magR (sig b) 1 (xpo b + min (max k (-L)) L) = magR (sig b) 1 (xpo b + k) := by
  obtain ⟨h1, h2⟩ := xpo_range f
  have hs := sig_lt b
  rcases Nat.eq_zero_or_pos (sig b) with h0 | h0
  · rw [h0, magR_zero, magR_zero]
  · have hb := blen_pos h0
    have hb2 : blen (sig b) ≤ 53 := blen_le (by omega)
    rcases Int.lt_or_le k (-L) with hl | hl
    · rw [magR_small (e := xpo b + k) (by omega) (by rw [show blen 1 = 1 by decide]; omega), magR_small (by omega) (by rw [show blen 1 = 1 by decide]; omega)]
    · rcases Int.lt_or_le L k with hg | hg
      · rw [magR_big1 (e := xpo b + k) h0 (by omega), magR_big1 h0 (by omega)]
      · congr 1; omega
theorem fscale_lt {b : Nat} (hb : b < 18446744073709551616) (k : Int) : fscale b k < 18446744073709551616 := by
  unfold fscale
  split
  · exact sg_lt (mag_le _ _)
  · exact cln_lt hb
theorem fint_lt (n : Int) : fint n < 18446744073709551616 := sg_lt (mag_le _ _)

end Go.Proofs.YtibgpeaplmcogaaGreatDoor

namespace Go.Proofs.YtibgpeaplmcogaaGreatDoor
set_option maxRecDepth 100000
open Go.RowKit
set_option linter.unusedVariables false
set_option linter.unusedSimpArgs false

theorem magR_low (p q : Nat) : magR p q (-1074) = mag p q := by
  unfold magR
  rw [up_zero (by omega), dn_zero (by omega), Nat.pow_zero, Nat.mul_one, Nat.mul_one]
theorem mul_mag {a b : Nat} (fa : fld a < 2047) (fb : fld b < 2047) : magR (sig a * sig b) 1 (xpo a + xpo b) = mag (vl a * vl b) OO := by
  have h1 := xpo_range fa
  have h2 := xpo_range fb
  rw [← magR_low]
  refine magR_eq (a := (xpo a + 1074).toNat + (xpo b + 1074).toNat) (b := K74) (by omega) OO_pos ?_ (by rw [K74_eq]; omega)
  rw [vl_eq, vl_eq, OO_eq, Nat.pow_add]
  grind
theorem fld_of {a A : Nat} (h : mant a ≤ A) (hA : A < INF) : fld a < 2047 := by
  have h1 := mant_fld a
  have h2 := INF_eq
  have h3 : mant a < INF := by omega
  rw [← h1.1, Nat.div_lt_iff_lt_mul B52_pos, ← h2]
  exact h3
theorem kd_of {a : Nat} (h : fld a < 2047) : kd a ≤ 2 := (kd_cases a).2.2 h
theorem sg_parts {s : Bool} {M : Nat} (h : M ≤ INF) : ng (sg s M) = s ∧ mant (sg s M) = M := by
  rw [INF_lit] at h
  unfold ng mant sg
  cases s
  · simp; omega
  · simp; omega
theorem fmul_fin {a b : Nat} (fa : fld a < 2047) (fb : fld b < 2047) : fmul a b = sg (ng a != ng b) (mag (vl a * vl b) OO) := by
  have k1 := kd_of fa
  have k2 := kd_of fb
  unfold fmul
  have h1 : ¬ (kd a = 4 ∨ kd b = 4 ∨ (kd a = 3 ∧ kd b = 0) ∨ (kd a = 0 ∧ kd b = 3)) := by omega
  have h2 : ¬ (kd a = 3 ∨ kd b = 3) := by omega
  rw [if_neg h1, if_neg h2, mul_mag fa fb]
/-- what a double says, with its sign -/
def iv (b : Nat) : Int := sI (ng b) (vl b)
theorem iv_abs (b : Nat) : (iv b).natAbs = vl b := sI_natAbs _ _
theorem fadd_fin {a b : Nat} (fa : fld a < 2047) (fb : fld b < 2047) : mant (fadd a b) = mag (iv a + iv b).natAbs 1 ∧ (0 < iv a + iv b → ng (fadd a b) = false) ∧ (iv a + iv b < 0 → ng (fadd a b) = true) ∧ (ng a = false → iv a + iv b = 0 → ng (fadd a b) = false) := by
  have k1 := kd_of fa
  have k2 := kd_of fb
  have e : fadd a b = fsumF a b := by
    unfold fadd
    have h1 : ¬ (kd a = 4 ∨ kd b = 4 ∨ (kd a = 3 ∧ kd b = 3 ∧ a ≠ b)) := by omega
    have h2 : ¬ kd a = 3 := by omega
    have h3 : ¬ kd b = 3 := by omega
    rw [if_neg h1, if_neg h2, if_neg h3]
  rw [e]
  unfold fsumF iv sI
  generalize vl a = p
  generalize vl b = q
  by_cases h : ng a = ng b
  · rw [if_pos h, ← h]
    obtain ⟨g1, g2⟩ := sg_parts (s := ng a) (mag_le (p + q) 1)
    rw [g1, g2]
    clear h
    cases ng a
    · rw [if_neg (by decide), if_neg (by decide)]
      exact ⟨by congr 1, fun _ => rfl, fun h => absurd h (by omega), fun _ _ => rfl⟩
    · rw [if_pos rfl, if_pos rfl]
      exact ⟨by congr 1; omega, fun h => absurd h (by omega), fun _ => rfl, fun h => by cases h⟩
  · rw [if_neg h]
    by_cases h2 : p = q
    · subst h2
      rw [if_pos rfl]
      have e0 : (if ng a = true then -(p : Int) else p) + (if ng b = true then -(p : Int) else p) = 0 := by
        revert h; cases ng a <;> cases ng b <;> simp <;> omega
      rw [e0]
      refine ⟨by rw [show (0 : Int).natAbs = 0 from rfl, mag_zero]; rfl, fun h => absurd h (by omega), fun h => absurd h (by omega), fun _ _ => by decide⟩
    · rw [if_neg h2]
      by_cases h3 : q < p
      · rw [if_pos h3]
        obtain ⟨g1, g2⟩ := sg_parts (s := ng a) (mag_le (p - q) 1)
        rw [g1, g2]
        revert h
        cases ng a <;> cases ng b <;> simp
        · exact ⟨by congr 1; omega, by omega⟩
        · exact ⟨by congr 1; omega, by omega⟩
      · rw [if_neg h3]
        obtain ⟨g1, g2⟩ := sg_parts (s := ng b) (mag_le (q - p) 1)
        rw [g1, g2]
        revert h
        cases ng a <;> cases ng b <;> simp
        · exact ⟨by congr 1; omega, by omega, by omega⟩
        · exact ⟨by congr 1; omega, by omega⟩
theorem flp_fld (b : Nat) : fld (flp b) = fld b := by unfold fld flp; omega
theorem flc_fin {b : Nat} (hb : b < 18446744073709551616) (fb : fld b < 2047) : flc b = flp b ∧ fld (flc b) < 2047 ∧ iv (flc b) = - iv b := by
  have k2 := kd_of fb
  have e : flc b = flp b := by unfold flc; rw [if_neg (by omega)]
  rw [e]
  refine ⟨rfl, by rw [flp_fld]; exact fb, ?_⟩
  unfold iv
  rw [flp_vl, flp_ng hb, sI_not]
theorem fsub_fin {a b : Nat} (hb : b < 18446744073709551616) (fa : fld a < 2047) (fb : fld b < 2047) : mant (fsub a b) = mag (iv a - iv b).natAbs 1 ∧ (0 < iv a - iv b → ng (fsub a b) = false) ∧ (iv a - iv b < 0 → ng (fsub a b) = true) ∧ (ng a = false → iv a - iv b = 0 → ng (fsub a b) = false) := by
  obtain ⟨_, f2, e2⟩ := flc_fin hb fb
  have := fadd_fin fa f2
  unfold fsub
  rw [e2, ← Int.sub_eq_add_neg] at this
  exact this
/-! ### bounds -/
theorem vl_le {a A : Nat} (h : mant a ≤ A) (hA : A < INF) : vl a ≤ fv A := fv_mono hA h
theorem le_mul {a b A B C : Nat} (ha : mant a ≤ A) (hb : mant b ≤ B) (hA : A < INF) (hB : B < INF) (hC : C < INF) (h : fv A * fv B ≤ fv C * OO) : ng (fmul a b) = (ng a != ng b) ∧ mant (fmul a b) ≤ C := by
  rw [fmul_fin (fld_of ha hA) (fld_of hb hB)]
  obtain ⟨g1, g2⟩ := sg_parts (s := (ng a != ng b)) (mag_le (vl a * vl b) OO)
  rw [g1, g2]
  exact ⟨rfl, mag_upto OO_pos hC (Nat.le_trans (Nat.mul_le_mul (vl_le ha hA) (vl_le hb hB)) h)⟩
theorem le_sub {a b A B C : Nat} (hb64 : b < 18446744073709551616) (ha : mant a ≤ A) (hb : mant b ≤ B) (hA : A < INF) (hB : B < INF) (hC : C < INF) (h : fv A + fv B ≤ fv C) : mant (fsub a b) ≤ C := by
  rw [(fsub_fin hb64 (fld_of ha hA) (fld_of hb hB)).1]
  refine mag_upto (by omega) hC ?_
  have h1 := vl_le ha hA
  have h2 := vl_le hb hB
  have h3 := iv_abs a
  have h4 := iv_abs b
  omega
/-! ### the exponential's sum: each step leaves it without a sign, at most twice the term that it adds -/
@[irreducible] def HALF : Nat := 4602678819172646912
theorem HALF_lt : HALF < INF := by decide +kernel
end Go.Proofs.YtibgpeaplmcogaaGreatDoor
