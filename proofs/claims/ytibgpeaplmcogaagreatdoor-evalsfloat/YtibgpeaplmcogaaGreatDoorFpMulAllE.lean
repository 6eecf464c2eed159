/-
  What fprod.Sqrt returns for any word. Condition: the word is below 2^64.
-/
import Derived.Test.YtibgpeaplmcogaaGreatDoorFrOfAllE
namespace Go.Proofs.YtibgpeaplmcogaaGreatDoor
set_option maxRecDepth 100000
open Go.RowKit
set_option linter.unusedVariables false
set_option linter.unusedSimpArgs false

theorem fxp_range {b : Nat} (h : fld b < 2047) : -1138 ≤ fxp b ∧ fxp b ≤ 971 := by
  have := xpo_range h
  unfold fxp
  omega
theorem mkd_lt {m : Nat} (h : m < 18446744073709551616) (x : Bool) : mkd m x < 18446744073709551616 := by unfold mkd; split <;> omega
/-- the product's two words -/
theorem mul_words {x y : Nat} : hi64 ((x : Int) * y) = ((x * y / 18446744073709551616 : Nat) : Int) ∧ lo64 ((x : Int) * y) = ((x * y % 18446744073709551616 : Nat) : Int) := by
  have h : (x : Int) * y = ((x * y : Nat) : Int) := by push_cast; rfl
  unfold hi64 lo64
  rw [h]
  generalize x * y = z
  omega
theorem mul_word_lt {x y : Nat} (hx : x < 18446744073709551616) (hy : y < 18446744073709551616) : x * y / 18446744073709551616 < 18446744073709551616 := by
  rw [Nat.div_lt_iff_lt_mul (by omega)]
  exact Nat.mul_lt_mul_of_lt_of_le hx (Nat.le_of_lt hy) (by omega)

set_option maxRecDepth 100000 in
set_option maxHeartbeats 8000000 in
theorem fp_mul {a b : Nat} (ha : a < 18446744073709551616) (hb : b < 18446744073709551616) (w : World) :
    Calls Tryz.prog 99 #[.int .u64 a, .int .u64 b] w (RetW (fmul a b) w) := by
  have K1 := Lib.hid (fb_kind ha w)
  have K2 := Lib.hid (fb_kind hb w)
  have N1 := Lib.hid (fb_neg ha w)
  have N2 := Lib.hid (fb_neg hb w)
  have NN := Lib.hid (fb_nan w)
  have II := Lib.hid (fb_inf (ng a != ng b) w)
  have c1 := kd_cases a
  have c2 := kd_cases b
  have hF : fmul a b = if kd a = 4 ∨ kd b = 4 ∨ (kd a = 3 ∧ kd b = 0) ∨ (kd a = 0 ∧ kd b = 3) then NAN else if kd a = 3 ∨ kd b = 3 then sg (ng a != ng b) INF else sg (ng a != ng b) (magR (sig a * sig b) 1 (xpo a + xpo b)) := rfl
  have FIN : ∀ (h1 : kd a ≤ 2) (h2 : kd b ≤ 2), ∃ (x y hi lo z : Nat) (ax bx e : Int), (hi < 18446744073709551616 ∧ -3000 ≤ ax ∧ ax ≤ 3000 ∧ -3000 ≤ bx ∧ bx ≤ 3000 ∧ ax + bx + 64 = e) ∧
      Calls Tryz.prog 159 #[.int .u64 a] w (fun e w' => e = .returned (.tuple #[.int .u64 x, .int .i64 ax]) ∧ w = w') ∧
      Calls Tryz.prog 159 #[.int .u64 b] w (fun e w' => e = .returned (.tuple #[.int .u64 y, .int .i64 bx]) ∧ w = w') ∧
      Calls Tryz.prog 160 #[.int .u64 x, .int .u64 y] w (fun e w' => e = .returned (.tuple #[.int .u64 hi, .int .u64 lo]) ∧ w = w') ∧
      Calls Tryz.prog 161 #[.int .u64 hi, .int .u64 lo] w (fun e w' => e = .returned (.int .u64 z) ∧ w = w') ∧
      Calls Tryz.prog 151 #[.bool (ng a != ng b), .int .u64 z, .int .i64 e] w (RetW (sg (ng a != ng b) (magR (sig a * sig b) 1 (xpo a + xpo b))) w) := by
    intro h1 h2
    have f1 := c1.2.1 h1
    have f2 := c2.2.1 h2
    have r1 := fxp_range f1
    have r2 := fxp_range f2
    have l1 := fsg_lt a
    have l2 := fsg_lt b
    have hl := mul_word_lt l1 l2
    have M := limb_mul (fsg a : Int) (fsg b : Int) (by unfold U; omega) (by unfold U; omega) w
    rw [mul_words.1, mul_words.2] at M
    refine ⟨fsg a, fsg b, _, _, _, fxp a, fxp b, _, ⟨hl, by omega, by omega, by omega, by omega, rfl⟩, fp_full ha f1 w, fp_full hb f2 w, M, fp_mark hl w, ?_⟩
    have W1 := fr_word (ng a != ng b) (mkd_lt hl (decide (fsg a * fsg b % 18446744073709551616 ≠ 0))) (e := fxp a + fxp b + 64) (by omega) (by omega) w
    rw [mul_round] at W1
    exact W1
  generalize magR (sig a * sig b) 1 (xpo a + xpo b) = V at *
  replace c1 := c1.1
  replace c2 := c2.1
  generalize fmul a b = F at *
  generalize kd a = k at *
  generalize kd b = l at *
  obtain ⟨sn, hs⟩ : ∃ sn, (ng a != ng b) = sn := ⟨_, rfl⟩
  rw [hs] at hF II FIN
  generalize ng a = n1 at *
  generalize ng b = n2 at *
  have hs2 : (!(n1 == n2)) = sn := hs
  have hcl : (k = 4) ∨ (k ≠ 4 ∧ l = 4) ∨ (k = 3 ∧ l = 0) ∨ (k = 0 ∧ l = 3) ∨ (k = 3 ∧ (l ≠ 0 ∧ l ≠ 4)) ∨ ((k ≠ 0 ∧ k ≠ 3 ∧ k ≠ 4) ∧ l = 3) ∨ (k = 0 ∧ (l ≠ 3 ∧ l ≠ 4)) ∨ ((k ≠ 0 ∧ k ≠ 3 ∧ k ≠ 4) ∧ (l ≠ 3 ∧ l ≠ 4)) := by omega
  rcases hcl with h | h | h | h | h | h | h | h
  · have h0 := h
    subst h0
    rw [if_pos (.inl rfl)] at hF
    have HF := Lib.hid hF
    clear hF
    clear FIN
    go_enter Tryz.func99, Tryz.ntmps99
    go_wp2_with fail
    refine (K1.out).mono ?_
    rintro _ w' ⟨rfl, rfl⟩
    go_wp2_with fail
    refine (K2.out).mono ?_
    rintro _ w' ⟨rfl, rfl⟩
    go_wp2_with fail
    refine (N1.out).mono ?_
    rintro _ w' ⟨rfl, rfl⟩
    go_wp2_with fail
    refine (N2.out).mono ?_
    rintro _ w' ⟨rfl, rfl⟩
    go_wp2_with fail
    refine NN.out.mono ?_
    rintro _ w' ⟨rfl, rfl⟩
    go_wp2_with fail
    go_ret
    exact ⟨ret1 (by rw [HF.out]), Below.refl _ _⟩
  · obtain ⟨h0, h1⟩ := h
    have gk4 : ((k : Int) == 4) = false := by simp; omega
    subst h1
    rw [if_pos (.inr (.inl rfl))] at hF
    have HF := Lib.hid hF
    clear hF
    clear FIN
    go_enter Tryz.func99, Tryz.ntmps99
    go_wp2_with fail
    refine (K1.out).mono ?_
    rintro _ w' ⟨rfl, rfl⟩
    go_wp2_with fail
    refine (K2.out).mono ?_
    rintro _ w' ⟨rfl, rfl⟩
    go_wp2_with fail
    refine (N1.out).mono ?_
    rintro _ w' ⟨rfl, rfl⟩
    go_wp2_with fail
    refine (N2.out).mono ?_
    rintro _ w' ⟨rfl, rfl⟩
    go_wp2_with fail
    refine NN.out.mono ?_
    rintro _ w' ⟨rfl, rfl⟩
    go_wp2_with fail
    go_ret
    exact ⟨ret1 (by rw [HF.out]), Below.refl _ _⟩
  · obtain ⟨h0, h1⟩ := h
    subst h0
    subst h1
    rw [if_pos (.inr (.inr (.inl ⟨rfl, rfl⟩)))] at hF
    have HF := Lib.hid hF
    clear hF
    clear FIN
    go_enter Tryz.func99, Tryz.ntmps99
    go_wp2_with fail
    refine (K1.out).mono ?_
    rintro _ w' ⟨rfl, rfl⟩
    go_wp2_with fail
    refine (K2.out).mono ?_
    rintro _ w' ⟨rfl, rfl⟩
    go_wp2_with fail
    refine (N1.out).mono ?_
    rintro _ w' ⟨rfl, rfl⟩
    go_wp2_with fail
    refine (N2.out).mono ?_
    rintro _ w' ⟨rfl, rfl⟩
    go_wp2_with fail
    refine NN.out.mono ?_
    rintro _ w' ⟨rfl, rfl⟩
    go_wp2_with fail
    go_ret
    exact ⟨ret1 (by rw [HF.out]), Below.refl _ _⟩
  · obtain ⟨h0, h1⟩ := h
    subst h0
    subst h1
    rw [if_pos (.inr (.inr (.inr ⟨rfl, rfl⟩)))] at hF
    have HF := Lib.hid hF
    clear hF
    clear FIN
    go_enter Tryz.func99, Tryz.ntmps99
    go_wp2_with fail
    refine (K1.out).mono ?_
    rintro _ w' ⟨rfl, rfl⟩
    go_wp2_with fail
    refine (K2.out).mono ?_
    rintro _ w' ⟨rfl, rfl⟩
    go_wp2_with fail
    refine (N1.out).mono ?_
    rintro _ w' ⟨rfl, rfl⟩
    go_wp2_with fail
    refine (N2.out).mono ?_
    rintro _ w' ⟨rfl, rfl⟩
    go_wp2_with fail
    refine NN.out.mono ?_
    rintro _ w' ⟨rfl, rfl⟩
    go_wp2_with fail
    go_ret
    exact ⟨ret1 (by rw [HF.out]), Below.refl _ _⟩
  · obtain ⟨h0, h1⟩ := h
    have hc0 : ¬ (k = 4 ∨ l = 4 ∨ (k = 3 ∧ l = 0) ∨ (k = 0 ∧ l = 3)) := by omega
    subst h0
    have gl0 : ((l : Int) == 0) = false := by simp; omega
    have gl4 : ((l : Int) == 4) = false := by simp; omega
    rw [if_neg hc0, if_pos (.inl rfl)] at hF
    have HF := Lib.hid hF
    clear hF
    clear FIN
    go_enter Tryz.func99, Tryz.ntmps99
    go_wp2_with fail
    refine (K1.out).mono ?_
    rintro _ w' ⟨rfl, rfl⟩
    go_wp2_with fail
    refine (K2.out).mono ?_
    rintro _ w' ⟨rfl, rfl⟩
    go_wp2_with fail
    refine (N1.out).mono ?_
    rintro _ w' ⟨rfl, rfl⟩
    go_wp2_with fail
    refine (N2.out).mono ?_
    rintro _ w' ⟨rfl, rfl⟩
    go_wp2_with fail
    refine II.out.mono ?_
    rintro _ w' ⟨rfl, rfl⟩
    go_wp2_with fail
    go_ret
    exact ⟨ret1 (by rw [HF.out]), Below.refl _ _⟩
  · obtain ⟨h0, h1⟩ := h
    have hc0 : ¬ (k = 4 ∨ l = 4 ∨ (k = 3 ∧ l = 0) ∨ (k = 0 ∧ l = 3)) := by omega
    have gk0 : ((k : Int) == 0) = false := by simp; omega
    have gk3 : ((k : Int) == 3) = false := by simp; omega
    have gk4 : ((k : Int) == 4) = false := by simp; omega
    subst h1
    rw [if_neg hc0, if_pos (.inr rfl)] at hF
    have HF := Lib.hid hF
    clear hF
    clear FIN
    go_enter Tryz.func99, Tryz.ntmps99
    go_wp2_with fail
    refine (K1.out).mono ?_
    rintro _ w' ⟨rfl, rfl⟩
    go_wp2_with fail
    refine (K2.out).mono ?_
    rintro _ w' ⟨rfl, rfl⟩
    go_wp2_with fail
    refine (N1.out).mono ?_
    rintro _ w' ⟨rfl, rfl⟩
    go_wp2_with fail
    refine (N2.out).mono ?_
    rintro _ w' ⟨rfl, rfl⟩
    go_wp2_with fail
    refine II.out.mono ?_
    rintro _ w' ⟨rfl, rfl⟩
    go_wp2_with fail
    go_ret
    exact ⟨ret1 (by rw [HF.out]), Below.refl _ _⟩
  · obtain ⟨h0, h1⟩ := h
    have hc0 : ¬ (k = 4 ∨ l = 4 ∨ (k = 3 ∧ l = 0) ∨ (k = 0 ∧ l = 3)) := by omega
    have hc1 : ¬ (k = 3 ∨ l = 3) := by omega
    subst h0
    have gl3 : ((l : Int) == 3) = false := by simp; omega
    have gl4 : ((l : Int) == 4) = false := by simp; omega
    rw [if_neg hc0, if_neg hc1] at hF
    have HF := Lib.hid hF
    clear hF
    obtain ⟨x, y, hi, lo, z, ax, bx, e, ⟨q1, q2, q3, q4, q5, q6⟩, C1, C2, C3, C4, C5⟩ := FIN (by omega) (by omega)
    have D1 := Lib.hid C1
    have D2 := Lib.hid C2
    have D3 := Lib.hid C3
    have D4 := Lib.hid C4
    have D5 := Lib.hid C5
    clear C1 C2 C3 C4 C5 FIN
    go_enter Tryz.func99, Tryz.ntmps99
    go_wp2_with fail
    refine (K1.out).mono ?_
    rintro _ w' ⟨rfl, rfl⟩
    go_wp2_with fail
    refine (K2.out).mono ?_
    rintro _ w' ⟨rfl, rfl⟩
    go_wp2_with fail
    refine (N1.out).mono ?_
    rintro _ w' ⟨rfl, rfl⟩
    go_wp2_with fail
    refine (N2.out).mono ?_
    rintro _ w' ⟨rfl, rfl⟩
    go_wp2_with fail
    refine (D1.out).mono ?_
    rintro _ w' ⟨rfl, rfl⟩
    go_wp2_with fail
    refine (D2.out).mono ?_
    rintro _ w' ⟨rfl, rfl⟩
    go_wp2_with fail
    refine (D3.out).mono ?_
    rintro _ w' ⟨rfl, rfl⟩
    go_wp2_with fail
    refine (D4.out).mono ?_
    rintro _ w' ⟨rfl, rfl⟩
    go_wp2_with fail
    with_reducible refine (D5.out).mono ?_
    rintro _ w' ⟨rfl, bb⟩
    go_wp2_with fail
    go_ret
    exact ⟨ret1 (by rw [HF.out]), bb⟩
  · obtain ⟨h0, h1⟩ := h
    have hc0 : ¬ (k = 4 ∨ l = 4 ∨ (k = 3 ∧ l = 0) ∨ (k = 0 ∧ l = 3)) := by omega
    have hc1 : ¬ (k = 3 ∨ l = 3) := by omega
    have gk0 : ((k : Int) == 0) = false := by simp; omega
    have gk3 : ((k : Int) == 3) = false := by simp; omega
    have gk4 : ((k : Int) == 4) = false := by simp; omega
    have gl3 : ((l : Int) == 3) = false := by simp; omega
    have gl4 : ((l : Int) == 4) = false := by simp; omega
    rw [if_neg hc0, if_neg hc1] at hF
    have HF := Lib.hid hF
    clear hF
    obtain ⟨x, y, hi, lo, z, ax, bx, e, ⟨q1, q2, q3, q4, q5, q6⟩, C1, C2, C3, C4, C5⟩ := FIN (by omega) (by omega)
    have D1 := Lib.hid C1
    have D2 := Lib.hid C2
    have D3 := Lib.hid C3
    have D4 := Lib.hid C4
    have D5 := Lib.hid C5
    clear C1 C2 C3 C4 C5 FIN
    go_enter Tryz.func99, Tryz.ntmps99
    go_wp2_with fail
    refine (K1.out).mono ?_
    rintro _ w' ⟨rfl, rfl⟩
    go_wp2_with fail
    refine (K2.out).mono ?_
    rintro _ w' ⟨rfl, rfl⟩
    go_wp2_with fail
    refine (N1.out).mono ?_
    rintro _ w' ⟨rfl, rfl⟩
    go_wp2_with fail
    refine (N2.out).mono ?_
    rintro _ w' ⟨rfl, rfl⟩
    go_wp2_with fail
    refine (D1.out).mono ?_
    rintro _ w' ⟨rfl, rfl⟩
    go_wp2_with fail
    refine (D2.out).mono ?_
    rintro _ w' ⟨rfl, rfl⟩
    go_wp2_with fail
    refine (D3.out).mono ?_
    rintro _ w' ⟨rfl, rfl⟩
    go_wp2_with fail
    refine (D4.out).mono ?_
    rintro _ w' ⟨rfl, rfl⟩
    go_wp2_with fail
    with_reducible refine (D5.out).mono ?_
    rintro _ w' ⟨rfl, bb⟩
    go_wp2_with fail
    go_ret
    exact ⟨ret1 (by rw [HF.out]), bb⟩

set_option maxRecDepth 100000 in
set_option maxHeartbeats 8000000 in
theorem fp_div {a b : Nat} (ha : a < 18446744073709551616) (hb : b < 18446744073709551616) (w : World) :
    Calls Tryz.prog 100 #[.int .u64 a, .int .u64 b] w (RetW (fdiv a b) w) := by
  have K1 := Lib.hid (fb_kind ha w)
  have K2 := Lib.hid (fb_kind hb w)
  have N1 := Lib.hid (fb_neg ha w)
  have N2 := Lib.hid (fb_neg hb w)
  have NN := Lib.hid (fb_nan w)
  have II := Lib.hid (fb_inf (ng a != ng b) w)
  have c1 := kd_cases a
  have c2 := kd_cases b
  have hF : fdiv a b = if kd a = 4 ∨ kd b = 4 ∨ (kd a = 3 ∧ kd b = 3) ∨ (kd a = 0 ∧ kd b = 0) then NAN else if kd a = 3 ∨ kd b = 0 then sg (ng a != ng b) INF else if kd a = 0 ∨ kd b = 3 then sg (ng a != ng b) 0 else sg (ng a != ng b) (magR (sig a) (sig b) (xpo a - xpo b)) := rfl
  have ZZ : Calls Tryz.prog 151 #[.bool (ng a != ng b), .int .u64 0, .int .i64 0] w (RetW (sg (ng a != ng b) 0) w) := by
    have W0 := fr_word (ng a != ng b) (m := 0) (by omega) (e := 0) (by omega) (by omega) w
    rw [magR_zero] at W0
    exact W0
  have FIN : ∀ (h1 : kd a = 1 ∨ kd a = 2) (h2 : kd b = 1 ∨ kd b = 2), ∃ (x y hf q lo z : Nat) (ax bx e : Int), (q < 18446744073709551616 ∧ -3000 ≤ ax ∧ ax ≤ 3000 ∧ -3000 ≤ bx ∧ bx ≤ 3000 ∧ ax - bx + 1 - 64 = e ∧ (x : Int) / 2 = hf) ∧
      Calls Tryz.prog 159 #[.int .u64 a] w (fun e w' => e = .returned (.tuple #[.int .u64 x, .int .i64 ax]) ∧ w = w') ∧
      Calls Tryz.prog 159 #[.int .u64 b] w (fun e w' => e = .returned (.tuple #[.int .u64 y, .int .i64 bx]) ∧ w = w') ∧
      Calls Tryz.prog 162 #[.int .u64 hf, .int .u64 0, .int .u64 y] w (fun e w' => e = .returned (.tuple #[.int .u64 q, .int .u64 lo, .bool true]) ∧ ∃ n, w' = w.drewN n) ∧
      (∀ w, Calls Tryz.prog 161 #[.int .u64 q, .int .u64 lo] w (fun e w' => e = .returned (.int .u64 z) ∧ w = w')) ∧
      (∀ w, Calls Tryz.prog 151 #[.bool (ng a != ng b), .int .u64 z, .int .i64 e] w (RetW (sg (ng a != ng b) (magR (sig a) (sig b) (xpo a - xpo b))) w)) := by
    intro h1 h2
    have f1 := c1.2.1 (by omega)
    have f2 := c2.2.1 (by omega)
    have p1 := sig_pos h1
    have p2 := sig_pos h2
    have r1 := fxp_range f1
    have r2 := fxp_range f2
    have l1 := fsg_lt a
    have l2 := fsg_lt b
    have g2 := fsg_ge p2
    have M := limb_div_yes ((fsg a / 2 : Nat) : Int) 0 (fsg b : Int) (by unfold U; omega) (by unfold U; omega) (by unfold U; omega) (by omega) w
    have hdv : (((fsg a / 2 : Nat) : Int) * 18446744073709551616 + 0) / (fsg b : Int) = ((fsg a / 2 * 18446744073709551616 / fsg b : Nat) : Int) ∧ (((fsg a / 2 : Nat) : Int) * 18446744073709551616 + 0) % (fsg b : Int) = ((fsg a / 2 * 18446744073709551616 % fsg b : Nat) : Int) := by
      have e : ((fsg a / 2 : Nat) : Int) * 18446744073709551616 + 0 = ((fsg a / 2 * 18446744073709551616 : Nat) : Int) := by omega
      rw [e]
      exact ⟨by rw [Int.natCast_ediv], by rw [Int.natCast_emod]⟩
    rw [hdv.1, hdv.2] at M
    have hq : fsg a / 2 * 18446744073709551616 / fsg b < 18446744073709551616 := by
      rw [Nat.div_lt_iff_lt_mul (by omega)]
      omega
    refine ⟨fsg a, fsg b, fsg a / 2, _, _, _, fxp a, fxp b, _, ⟨hq, by omega, by omega, by omega, by omega, rfl, by omega⟩, fp_full ha f1 w, fp_full hb f2 w, M, fun w => fp_mark hq w, ?_⟩
    intro w
    have W1 := fr_word (ng a != ng b) (mkd_lt hq (decide (fsg a / 2 * 18446744073709551616 % fsg b ≠ 0))) (e := fxp a - fxp b + 1 - 64) (by omega) (by omega) w
    rw [div_round p1 p2] at W1
    exact W1
  generalize magR (sig a) (sig b) (xpo a - xpo b) = V at *
  replace c1 := c1.1
  replace c2 := c2.1
  generalize fdiv a b = F at *
  generalize kd a = k at *
  generalize kd b = l at *
  obtain ⟨sn, hs⟩ : ∃ sn, (ng a != ng b) = sn := ⟨_, rfl⟩
  rw [hs] at hF II FIN ZZ
  generalize ng a = n1 at *
  generalize ng b = n2 at *
  have hs2 : (!(n1 == n2)) = sn := hs
  have HZ := Lib.hid ZZ
  clear ZZ
  have hcl : (k = 4) ∨ (k ≠ 4 ∧ l = 4) ∨ (k = 3 ∧ l = 3) ∨ (k = 0 ∧ l = 0) ∨ (k = 3 ∧ (l ≠ 3 ∧ l ≠ 4)) ∨ ((k ≠ 0 ∧ k ≠ 3 ∧ k ≠ 4) ∧ l = 0) ∨ (k = 0 ∧ (l ≠ 0 ∧ l ≠ 4)) ∨ ((k ≠ 0 ∧ k ≠ 3 ∧ k ≠ 4) ∧ l = 3) ∨ ((k ≠ 0 ∧ k ≠ 3 ∧ k ≠ 4) ∧ (l ≠ 0 ∧ l ≠ 3 ∧ l ≠ 4)) := by omega
  rcases hcl with h | h | h | h | h | h | h | h | h
  · have h0 := h
    subst h0
    rw [if_pos (.inl rfl)] at hF
    have HF := Lib.hid hF
    clear hF
    clear FIN
    go_enter Tryz.func100, Tryz.ntmps100
    go_wp2_with fail
    refine (K1.out).mono ?_
    rintro _ w' ⟨rfl, rfl⟩
    go_wp2_with fail
    refine (K2.out).mono ?_
    rintro _ w' ⟨rfl, rfl⟩
    go_wp2_with fail
    refine (N1.out).mono ?_
    rintro _ w' ⟨rfl, rfl⟩
    go_wp2_with fail
    refine (N2.out).mono ?_
    rintro _ w' ⟨rfl, rfl⟩
    go_wp2_with fail
    refine NN.out.mono ?_
    rintro _ w' ⟨rfl, rfl⟩
    go_wp2_with fail
    go_ret
    exact ⟨ret1 (by rw [HF.out]), Below.refl _ _⟩
  · obtain ⟨h0, h1⟩ := h
    have gk4 : ((k : Int) == 4) = false := by simp; omega
    subst h1
    rw [if_pos (.inr (.inl rfl))] at hF
    have HF := Lib.hid hF
    clear hF
    clear FIN
    go_enter Tryz.func100, Tryz.ntmps100
    go_wp2_with fail
    refine (K1.out).mono ?_
    rintro _ w' ⟨rfl, rfl⟩
    go_wp2_with fail
    refine (K2.out).mono ?_
    rintro _ w' ⟨rfl, rfl⟩
    go_wp2_with fail
    refine (N1.out).mono ?_
    rintro _ w' ⟨rfl, rfl⟩
    go_wp2_with fail
    refine (N2.out).mono ?_
    rintro _ w' ⟨rfl, rfl⟩
    go_wp2_with fail
    refine NN.out.mono ?_
    rintro _ w' ⟨rfl, rfl⟩
    go_wp2_with fail
    go_ret
    exact ⟨ret1 (by rw [HF.out]), Below.refl _ _⟩
  · obtain ⟨h0, h1⟩ := h
    subst h0
    subst h1
    rw [if_pos (.inr (.inr (.inl ⟨rfl, rfl⟩)))] at hF
    have HF := Lib.hid hF
    clear hF
    clear FIN
    go_enter Tryz.func100, Tryz.ntmps100
    go_wp2_with fail
    refine (K1.out).mono ?_
    rintro _ w' ⟨rfl, rfl⟩
    go_wp2_with fail
    refine (K2.out).mono ?_
    rintro _ w' ⟨rfl, rfl⟩
    go_wp2_with fail
    refine (N1.out).mono ?_
    rintro _ w' ⟨rfl, rfl⟩
    go_wp2_with fail
    refine (N2.out).mono ?_
    rintro _ w' ⟨rfl, rfl⟩
    go_wp2_with fail
    refine NN.out.mono ?_
    rintro _ w' ⟨rfl, rfl⟩
    go_wp2_with fail
    go_ret
    exact ⟨ret1 (by rw [HF.out]), Below.refl _ _⟩
  · obtain ⟨h0, h1⟩ := h
    subst h0
    subst h1
    rw [if_pos (.inr (.inr (.inr ⟨rfl, rfl⟩)))] at hF
    have HF := Lib.hid hF
    clear hF
    clear FIN
    go_enter Tryz.func100, Tryz.ntmps100
    go_wp2_with fail
    refine (K1.out).mono ?_
    rintro _ w' ⟨rfl, rfl⟩
    go_wp2_with fail
    refine (K2.out).mono ?_
    rintro _ w' ⟨rfl, rfl⟩
    go_wp2_with fail
    refine (N1.out).mono ?_
    rintro _ w' ⟨rfl, rfl⟩
    go_wp2_with fail
    refine (N2.out).mono ?_
    rintro _ w' ⟨rfl, rfl⟩
    go_wp2_with fail
    refine NN.out.mono ?_
    rintro _ w' ⟨rfl, rfl⟩
    go_wp2_with fail
    go_ret
    exact ⟨ret1 (by rw [HF.out]), Below.refl _ _⟩
  · obtain ⟨h0, h1⟩ := h
    have hc0 : ¬ (k = 4 ∨ l = 4 ∨ (k = 3 ∧ l = 3) ∨ (k = 0 ∧ l = 0)) := by omega
    subst h0
    have gl3 : ((l : Int) == 3) = false := by simp; omega
    have gl4 : ((l : Int) == 4) = false := by simp; omega
    rw [if_neg hc0, if_pos (.inl rfl)] at hF
    have HF := Lib.hid hF
    clear hF
    clear FIN
    go_enter Tryz.func100, Tryz.ntmps100
    go_wp2_with fail
    refine (K1.out).mono ?_
    rintro _ w' ⟨rfl, rfl⟩
    go_wp2_with fail
    refine (K2.out).mono ?_
    rintro _ w' ⟨rfl, rfl⟩
    go_wp2_with fail
    refine (N1.out).mono ?_
    rintro _ w' ⟨rfl, rfl⟩
    go_wp2_with fail
    refine (N2.out).mono ?_
    rintro _ w' ⟨rfl, rfl⟩
    go_wp2_with fail
    refine II.out.mono ?_
    rintro _ w' ⟨rfl, rfl⟩
    go_wp2_with fail
    go_ret
    exact ⟨ret1 (by rw [HF.out]), Below.refl _ _⟩
  · obtain ⟨h0, h1⟩ := h
    have hc0 : ¬ (k = 4 ∨ l = 4 ∨ (k = 3 ∧ l = 3) ∨ (k = 0 ∧ l = 0)) := by omega
    have gk0 : ((k : Int) == 0) = false := by simp; omega
    have gk3 : ((k : Int) == 3) = false := by simp; omega
    have gk4 : ((k : Int) == 4) = false := by simp; omega
    subst h1
    rw [if_neg hc0, if_pos (.inr rfl)] at hF
    have HF := Lib.hid hF
    clear hF
    clear FIN
    go_enter Tryz.func100, Tryz.ntmps100
    go_wp2_with fail
    refine (K1.out).mono ?_
    rintro _ w' ⟨rfl, rfl⟩
    go_wp2_with fail
    refine (K2.out).mono ?_
    rintro _ w' ⟨rfl, rfl⟩
    go_wp2_with fail
    refine (N1.out).mono ?_
    rintro _ w' ⟨rfl, rfl⟩
    go_wp2_with fail
    refine (N2.out).mono ?_
    rintro _ w' ⟨rfl, rfl⟩
    go_wp2_with fail
    refine II.out.mono ?_
    rintro _ w' ⟨rfl, rfl⟩
    go_wp2_with fail
    go_ret
    exact ⟨ret1 (by rw [HF.out]), Below.refl _ _⟩
  · obtain ⟨h0, h1⟩ := h
    have hc0 : ¬ (k = 4 ∨ l = 4 ∨ (k = 3 ∧ l = 3) ∨ (k = 0 ∧ l = 0)) := by omega
    have hc1 : ¬ (k = 3 ∨ l = 0) := by omega
    subst h0
    have gl0 : ((l : Int) == 0) = false := by simp; omega
    have gl4 : ((l : Int) == 4) = false := by simp; omega
    rw [if_neg hc0, if_neg hc1, if_pos (.inl rfl)] at hF
    have HF := Lib.hid hF
    clear hF
    clear FIN
    go_enter Tryz.func100, Tryz.ntmps100
    go_wp2_with fail
    refine (K1.out).mono ?_
    rintro _ w' ⟨rfl, rfl⟩
    go_wp2_with fail
    refine (K2.out).mono ?_
    rintro _ w' ⟨rfl, rfl⟩
    go_wp2_with fail
    refine (N1.out).mono ?_
    rintro _ w' ⟨rfl, rfl⟩
    go_wp2_with fail
    refine (N2.out).mono ?_
    rintro _ w' ⟨rfl, rfl⟩
    go_wp2_with fail
    with_reducible refine (HZ.out).mono ?_
    rintro _ w' ⟨rfl, bb⟩
    go_wp2_with fail
    go_ret
    exact ⟨ret1 (by rw [HF.out]), bb⟩
  · obtain ⟨h0, h1⟩ := h
    have hc0 : ¬ (k = 4 ∨ l = 4 ∨ (k = 3 ∧ l = 3) ∨ (k = 0 ∧ l = 0)) := by omega
    have hc1 : ¬ (k = 3 ∨ l = 0) := by omega
    have gk0 : ((k : Int) == 0) = false := by simp; omega
    have gk3 : ((k : Int) == 3) = false := by simp; omega
    have gk4 : ((k : Int) == 4) = false := by simp; omega
    subst h1
    rw [if_neg hc0, if_neg hc1, if_pos (.inr rfl)] at hF
    have HF := Lib.hid hF
    clear hF
    clear FIN
    go_enter Tryz.func100, Tryz.ntmps100
    go_wp2_with fail
    refine (K1.out).mono ?_
    rintro _ w' ⟨rfl, rfl⟩
    go_wp2_with fail
    refine (K2.out).mono ?_
    rintro _ w' ⟨rfl, rfl⟩
    go_wp2_with fail
    refine (N1.out).mono ?_
    rintro _ w' ⟨rfl, rfl⟩
    go_wp2_with fail
    refine (N2.out).mono ?_
    rintro _ w' ⟨rfl, rfl⟩
    go_wp2_with fail
    with_reducible refine (HZ.out).mono ?_
    rintro _ w' ⟨rfl, bb⟩
    go_wp2_with fail
    go_ret
    exact ⟨ret1 (by rw [HF.out]), bb⟩
  · obtain ⟨h0, h1⟩ := h
    have hc0 : ¬ (k = 4 ∨ l = 4 ∨ (k = 3 ∧ l = 3) ∨ (k = 0 ∧ l = 0)) := by omega
    have hc1 : ¬ (k = 3 ∨ l = 0) := by omega
    have hc2 : ¬ (k = 0 ∨ l = 3) := by omega
    have gk0 : ((k : Int) == 0) = false := by simp; omega
    have gk3 : ((k : Int) == 3) = false := by simp; omega
    have gk4 : ((k : Int) == 4) = false := by simp; omega
    have gl0 : ((l : Int) == 0) = false := by simp; omega
    have gl3 : ((l : Int) == 3) = false := by simp; omega
    have gl4 : ((l : Int) == 4) = false := by simp; omega
    rw [if_neg hc0, if_neg hc1, if_neg hc2] at hF
    have HF := Lib.hid hF
    clear hF
    obtain ⟨x, y, hf, q, lo, z, ax, bx, e, ⟨q1, q2, q3, q4, q5, q6, q7⟩, C1, C2, C3, C4, C5⟩ := FIN (by omega) (by omega)
    have D1 := Lib.hid C1
    have D2 := Lib.hid C2
    have D3 := Lib.hid C3
    have D4 := Lib.hid C4
    have D5 := Lib.hid C5
    clear C1 C2 C3 C4 C5 FIN
    go_enter Tryz.func100, Tryz.ntmps100
    go_wp2_with fail
    refine (K1.out).mono ?_
    rintro _ w' ⟨rfl, rfl⟩
    go_wp2_with fail
    refine (K2.out).mono ?_
    rintro _ w' ⟨rfl, rfl⟩
    go_wp2_with fail
    refine (N1.out).mono ?_
    rintro _ w' ⟨rfl, rfl⟩
    go_wp2_with fail
    refine (N2.out).mono ?_
    rintro _ w' ⟨rfl, rfl⟩
    go_wp2_with fail
    refine (D1.out).mono ?_
    rintro _ w' ⟨rfl, rfl⟩
    go_wp2_with fail
    refine (D2.out).mono ?_
    rintro _ w' ⟨rfl, rfl⟩
    go_wp2_with fail
    refine D3.out.mono ?_
    rintro _ w' ⟨rfl, nd, rfl⟩
    have b0 := below_drewN w nd
    generalize w.drewN nd = v at *
    go_wp2_with fail
    refine (D4.out _).mono ?_
    rintro _ w' ⟨rfl, rfl⟩
    go_wp2_with fail
    with_reducible refine (D5.out _).mono ?_
    rintro _ w' ⟨rfl, bb⟩
    go_wp2_with fail
    go_ret
    exact ⟨ret1 (by rw [HF.out]), bbw b0 bb⟩

end Go.Proofs.YtibgpeaplmcogaaGreatDoor

namespace Go.Proofs.YtibgpeaplmcogaaGreatDoor
set_option maxRecDepth 100000
open Go.RowKit
set_option linter.unusedVariables false
set_option linter.unusedSimpArgs false

theorem inf_kd : kd INF = 3 := by decide +kernel
theorem inf_ng : ng INF = false := by decide +kernel
theorem sg_false (v : Nat) : sg false v = v := rfl
theorem rtx_even (b : Nat) : rtx b % 2 = 0 := by unfold rtx; split <;> omega
theorem tmod_even {X : Int} (h : X % 2 = 0) : (Int.tmod X 2 != 0) = false := by
  have : Int.tmod X 2 = 0 := Int.tmod_eq_zero_of_dvd (Int.dvd_of_emod_eq_zero h)
  rw [this]; rfl
theorem tmod_odd {X : Int} (h : ¬ X % 2 = 0) : (Int.tmod X 2 != 0) = true := by
  have : ¬ Int.tmod X 2 = 0 := fun h2 => h (Int.emod_eq_zero_of_dvd (Int.dvd_of_tmod_eq_zero h2))
  simpa using this
/-- the root and what is left, as names -/
theorem root_names {m : Nat} (h1 : 4611686018427387904 ≤ m) (h2 : m < 18446744073709551616) : ∃ R T : Nat, R < 18446744073709551616 ∧ 55 ≤ blen R ∧ (∀ e, magR (mkd R (decide (T ≠ 0))) 1 e = rtM (m * 281474976710656) e) ∧
    ∀ w, Calls Tryz.prog 163 #[.int .u64 m] w fun e w' => e = .returned (.tuple #[.int .u64 R, .int .u64 T]) ∧ w = w' := by
  obtain ⟨R, hR⟩ : ∃ R, rt (m * 281474976710656) = R := ⟨_, rfl⟩
  obtain ⟨g1, g2⟩ := rt_spec (m * 281474976710656)
  have C := fun w => fp_root h2 w
  rw [hR] at g1 g2 C
  have hb := rt_blen h1 g2
  refine ⟨R, m * 281474976710656 - R * R, ?_, hb, ?_, C⟩
  · rcases Nat.lt_or_ge R 18446744073709551616 with h | h
    · exact h
    · exfalso
      have := Nat.mul_le_mul h h
      omega
  · intro e
    rw [rtM_of e g1 g2, magM_mkd _ _ hb]
    congr 1
    rw [Bool.eq_iff_iff]; simp only [decide_eq_true_eq]; omega
theorem sqrt_calls {b : Nat} (hf : fld b < 2047) (pb : 0 < sig b) (w : World) : ∃ (R T Z : Nat) (hd e9 : Int), (R < 18446744073709551616 ∧ -569 ≤ hd ∧ hd ≤ 486 ∧ Int.tdiv (rtx b) 2 = hd ∧ hd + 32 - 56 = e9 ∧ -1138 ≤ rtx b ∧ rtx b ≤ 972 ∧ rtw b < 18446744073709551616) ∧
    Calls Tryz.prog 163 #[.int .u64 (rtw b)] w (fun e w' => e = .returned (.tuple #[.int .u64 R, .int .u64 T]) ∧ w = w') ∧
    Calls Tryz.prog 161 #[.int .u64 R, .int .u64 T] w (fun e w' => e = .returned (.int .u64 Z) ∧ w = w') ∧
    Calls Tryz.prog 151 #[.bool false, .int .u64 Z, .int .i64 e9] w (RetW (fsqM b) w) := by
  obtain ⟨q1, q2⟩ := rtw_ge pb
  obtain ⟨R, T, hR, hb, hm, hC⟩ := root_names q1 q2
  have r1 := fxp_range hf
  have ev := rtx_even b
  have rr : -1138 ≤ rtx b ∧ rtx b ≤ 972 := by unfold rtx; split <;> omega
  obtain ⟨hd, hhd⟩ : ∃ hd : Int, rtx b = hd * 2 := ⟨rtx b / 2, by omega⟩
  refine ⟨R, T, mkd R (decide (T ≠ 0)), hd, hd + 32 - 56, ⟨hR, by omega, by omega, by rw [hhd]; exact Int.mul_tdiv_cancel _ (by decide), rfl, by omega, by omega, q2⟩, hC w, fp_mark hR w, ?_⟩
  have WO := fr_word false (mkd_lt hR (decide (T ≠ 0))) (e := hd + 32 - 56) (by omega) (by omega) w
  have hV := hm (hd + 32 - 56)
  rw [show hd + 32 - 56 = rtx b / 2 - 24 by omega, root_round pb, show rtx b / 2 - 24 = hd + 32 - 56 by omega] at hV
  rw [hV, sg_false] at WO
  exact WO

set_option maxRecDepth 100000 in
set_option maxHeartbeats 8000000 in
theorem fp_sqrt {b : Nat} (hb : b < 18446744073709551616) (w : World) :
    Calls Tryz.prog 101 #[.int .u64 b] w (RetW (fsqrt b) w) := by
  have K1 := Lib.hid (fb_kind hb w)
  have N1 := fb_neg hb w
  have NN := Lib.hid (fb_nan w)
  have I0 := fb_inf false w
  rw [sg_false] at I0
  have II := Lib.hid I0
  clear I0
  have c1 := kd_cases b
  have hF : fsqrt b = if kd b = 0 then b else if kd b = 4 ∨ ng b = true then NAN else if kd b = 3 then b else fsqM b := rfl
  by_cases h0 : kd b = 0
  · rw [if_pos h0] at hF
    rw [h0] at K1
    rw [hF]
    clear hF N1
    go_enter Tryz.func101, Tryz.ntmps101
    go_wp2_with fail
    refine K1.out.mono ?_
    rintro _ w' ⟨rfl, rfl⟩
    go_wp2_with fail
    go_ret
    exact ⟨rfl, Below.refl _ _⟩
  · by_cases hI : b = INF
    · have h3 := inf_kd
      have h4 := inf_ng
      rw [← hI] at h3 h4
      rw [if_neg h0, if_neg (by rw [h3, h4]; simp), if_pos h3] at hF
      rw [hF]
      rw [← hI] at II
      rw [h3] at K1
      clear hF N1 hI
      go_enter Tryz.func101, Tryz.ntmps101
      go_wp2_with fail
      refine K1.out.mono ?_
      rintro _ w' ⟨rfl, rfl⟩
      go_wp2_with fail
      refine II.out.mono ?_
      rintro _ w' ⟨rfl, rfl⟩
      go_wp2_with fail
      go_ret
      exact ⟨rfl, Below.refl _ _⟩
    · have hI2 : ((b : Int) == INF) = false := by simp; omega
      have g0 : ((kd b : Int) == 0) = false := by simp; omega
      by_cases h4 : kd b = 4
      · rw [if_neg h0, if_pos (.inl h4)] at hF
        rw [hF]
        rw [h4] at K1
        clear hF N1 g0
        generalize INF = I at *
        go_enter Tryz.func101, Tryz.ntmps101
        go_wp2_with fail
        refine K1.out.mono ?_
        rintro _ w' ⟨rfl, rfl⟩
        go_wp2_with fail
        refine II.out.mono ?_
        rintro _ w' ⟨rfl, rfl⟩
        go_wp2_with fail
        refine NN.out.mono ?_
        rintro _ w' ⟨rfl, rfl⟩
        go_wp2_with fail
        go_ret
        exact ⟨rfl, Below.refl _ _⟩
      · have g4 : ((kd b : Int) == 4) = false := by simp; omega
        by_cases hn : ng b = true
        · rw [if_neg h0, if_pos (.inr hn)] at hF
          rw [hF]
          rw [hn] at N1
          have HN := Lib.hid N1
          clear hF N1 c1
          generalize INF = I at *
          generalize kd b = k at *
          go_enter Tryz.func101, Tryz.ntmps101
          go_wp2_with fail
          refine K1.out.mono ?_
          rintro _ w' ⟨rfl, rfl⟩
          go_wp2_with fail
          refine II.out.mono ?_
          rintro _ w' ⟨rfl, rfl⟩
          go_wp2_with fail
          refine HN.out.mono ?_
          rintro _ w' ⟨rfl, rfl⟩
          go_wp2_with fail
          refine NN.out.mono ?_
          rintro _ w' ⟨rfl, rfl⟩
          go_wp2_with fail
          go_ret
          exact ⟨rfl, Below.refl _ _⟩
        · have h3 : kd b ≠ 3 := by
            intro h3
            apply hI
            have := kd3 hb h3
            rw [show ng b = false by simpa using hn] at this
            exact this
          rw [if_neg h0, if_neg (by simp [h4]; simpa using hn), if_neg h3] at hF
          rw [hF]
          rw [show ng b = false by simpa using hn] at N1
          have hk : kd b = 1 ∨ kd b = 2 := by omega
          have hf := c1.2.1 (by omega)
          have pb := sig_pos hk
          have FU := Lib.hid (fp_full hb hf w)
          obtain ⟨R, T, Z, hd, e9, ⟨hR, d1, d2, ed, he9, x1, x2, hrw⟩, RO0, MA0, WO0⟩ := sqrt_calls hf pb w
          have r1 := fxp_range hf
          have hl := fsg_lt b
          have hX : rtx b = if fxp b % 2 = 0 then fxp b else fxp b + 1 := rfl
          have hW : rtw b = if fxp b % 2 = 0 then fsg b else fsg b / 2 := rfl
          have RO := Lib.hid RO0
          have M2 := Lib.hid MA0
          have HWO := Lib.hid WO0
          have HN := Lib.hid N1
          clear RO0 MA0 WO0 N1
          generalize fsqM b = V at *
          generalize INF = I at *
          generalize kd b = k at *
          generalize fsg b = G at *
          generalize fxp b = X at *
          generalize rtw b = RW at *
          generalize rtx b = RX at *
          have HX := Lib.hid hX
          have HW := Lib.hid hW
          clear hF c1 hX hW pb hk hf hn
          go_enter Tryz.func101, Tryz.ntmps101
          go_wp2_with fail
          refine K1.out.mono ?_
          rintro _ w' ⟨rfl, rfl⟩
          go_wp2_with fail
          refine II.out.mono ?_
          rintro _ w' ⟨rfl, rfl⟩
          go_wp2_with fail
          refine HN.out.mono ?_
          rintro _ w' ⟨rfl, rfl⟩
          go_wp2_with fail
          refine FU.out.mono ?_
          rintro _ w' ⟨rfl, rfl⟩
          go_upto_if 30 with (fail)
          go_cut [4, 5] (fun s4 s5 wx => s4 = .int .u64 RW ∧ s5 = .int .i64 RX ∧ w = wx)
          case first =>
            by_cases hx : X % 2 = 0
            · have t1 := tmod_even hx
              have h1 := HX.out
              have h2 := HW.out
              rw [if_pos hx] at h1 h2
              clear HX HW
              subst h1 h2
              go_wp2_with fail
              go_meet
              exact ⟨rfl, rfl, rfl⟩
            · have t1 := tmod_odd hx
              have h1 := HX.out
              have h2 := HW.out
              rw [if_neg hx] at h1 h2
              have HX1 := Lib.hid h1
              have HW1 := Lib.hid h2
              clear HX HW h1 h2
              go_wp2_with fail
              go_meet
              exact ⟨vint (by rw [HW1.out]; omega), vint (by rw [HX1.out]), rfl⟩
          case rest =>
          obtain ⟨rfl, rfl, rfl⟩ := hcut
          clear HX HW
          go_wp2_with fail
          refine RO.out.mono ?_
          rintro _ w' ⟨rfl, rfl⟩
          go_wp2_with fail
          refine M2.out.mono ?_
          rintro _ w' ⟨rfl, rfl⟩
          go_wp2_with fail
          with_reducible refine HWO.out.mono ?_
          rintro _ w' ⟨rfl, b1⟩
          go_wp2_with fail
          go_ret
          exact ⟨rfl, b1⟩

end Go.Proofs.YtibgpeaplmcogaaGreatDoor
