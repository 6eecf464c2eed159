/-
  What fprod.Sqrt returns for any word. Condition: the word is below 2^64.
-/
import Derived.Test.YtmoahgiklgicgaaDoorFpMathAll
namespace Go.Proofs.YtmoahgiklgicgaaDoor
set_option maxRecDepth 100000
open Go.RowKit
set_option linter.unusedVariables false
set_option linter.unusedSimpArgs false

theorem fxp_range {b : Nat} (h : fld b < 2047) : -1138 ≤ fxp b ∧ fxp b ≤ 971 := by
  have := xpo_range h
  unfold fxp
  omega
theorem mkd_lt {m : Nat} (h : m < 18446744073709551616) (x : Bool) : mkd m x < 18446744073709551616 := by unfold mkd; split <;> omega
/-- the product's two words -/
theorem mul_words {x y : Nat} : hi64 ((x : Int) * y) = ((x * y / 18446744073709551616 : Nat) : Int) ∧ lo64 ((x : Int) * y) = ((x * y % 18446744073709551616 : Nat) : Int) := by
  have h : (x : Int) * y = ((x * y : Nat) : Int) := by push_cast; rfl
  unfold hi64 lo64
  rw [h]
  generalize x * y = z
  omega
theorem mul_word_lt {x y : Nat} (hx : x < 18446744073709551616) (hy : y < 18446744073709551616) : x * y / 18446744073709551616 < 18446744073709551616 := by
  rw [Nat.div_lt_iff_lt_mul (by omega)]
  exact Nat.mul_lt_mul_of_lt_of_le hx (Nat.le_of_lt hy) (by omega)

set_option maxRecDepth 100000 in
set_option maxHeartbeats 8000000 in
theorem fp_mul {a b : Nat} (ha : a < 18446744073709551616) (hb : b < 18446744073709551616) (w : World) :
    Calls Tryd.prog 19 #[.int .u64 a, .int .u64 b] w (RetW (fmul a b) w) := by
  have K1 := Lib.hid (fb_kind ha w)
  have K2 := Lib.hid (fb_kind hb w)
  have N1 := Lib.hid (fb_neg ha w)
  have N2 := Lib.hid (fb_neg hb w)
  have NN := Lib.hid (fb_nan w)
  have II := Lib.hid (fb_inf (ng a != ng b) w)
  have c1 := kd_cases a
  have c2 := kd_cases b
  have hF : fmul a b = if kd a = 4 ∨ kd b = 4 ∨ (kd a = 3 ∧ kd b = 0) ∨ (kd a = 0 ∧ kd b = 3) then NAN else if kd a = 3 ∨ kd b = 3 then sg (ng a != ng b) INF else sg (ng a != ng b) (magR (sig a * sig b) 1 (xpo a + xpo b)) := rfl
  have FIN : ∀ (h1 : kd a ≤ 2) (h2 : kd b ≤ 2), ∃ (x y hi lo z : Nat) (ax bx e : Int), (hi < 18446744073709551616 ∧ -3000 ≤ ax ∧ ax ≤ 3000 ∧ -3000 ≤ bx ∧ bx ≤ 3000 ∧ ax + bx + 64 = e) ∧
      Calls Tryd.prog 48 #[.int .u64 a] w (fun e w' => e = .returned (.tuple #[.int .u64 x, .int .i64 ax]) ∧ w = w') ∧
      Calls Tryd.prog 48 #[.int .u64 b] w (fun e w' => e = .returned (.tuple #[.int .u64 y, .int .i64 bx]) ∧ w = w') ∧
      Calls Tryd.prog 49 #[.int .u64 x, .int .u64 y] w (fun e w' => e = .returned (.tuple #[.int .u64 hi, .int .u64 lo]) ∧ w = w') ∧
      Calls Tryd.prog 50 #[.int .u64 hi, .int .u64 lo] w (fun e w' => e = .returned (.int .u64 z) ∧ w = w') ∧
      Calls Tryd.prog 44 #[.bool (ng a != ng b), .int .u64 z, .int .i64 e] w (RetW (sg (ng a != ng b) (magR (sig a * sig b) 1 (xpo a + xpo b))) w) := by
    intro h1 h2
    have f1 := c1.2.1 h1
    have f2 := c2.2.1 h2
    have r1 := fxp_range f1
    have r2 := fxp_range f2
    have l1 := fsg_lt a
    have l2 := fsg_lt b
    have hl := mul_word_lt l1 l2
    have M := limb_mul (fsg a : Int) (fsg b : Int) (by unfold U; omega) (by unfold U; omega) w
    rw [mul_words.1, mul_words.2] at M
    refine ⟨fsg a, fsg b, _, _, _, fxp a, fxp b, _, ⟨hl, by omega, by omega, by omega, by omega, rfl⟩, fp_full ha f1 w, fp_full hb f2 w, M, fp_mark hl w, ?_⟩
    have W1 := fr_word (ng a != ng b) (mkd_lt hl (decide (fsg a * fsg b % 18446744073709551616 ≠ 0))) (e := fxp a + fxp b + 64) (by omega) (by omega) w
    rw [mul_round] at W1
    exact W1
  generalize magR (sig a * sig b) 1 (xpo a + xpo b) = V at *
  replace c1 := c1.1
  replace c2 := c2.1
  generalize fmul a b = F at *
  generalize kd a = k at *
  generalize kd b = l at *
  obtain ⟨sn, hs⟩ : ∃ sn, (ng a != ng b) = sn := ⟨_, rfl⟩
  rw [hs] at hF II FIN
  generalize ng a = n1 at *
  generalize ng b = n2 at *
  have hs2 : (!(n1 == n2)) = sn := hs
  have hcl : (k = 4) ∨ (k ≠ 4 ∧ l = 4) ∨ (k = 3 ∧ l = 0) ∨ (k = 0 ∧ l = 3) ∨ (k = 3 ∧ (l ≠ 0 ∧ l ≠ 4)) ∨ ((k ≠ 0 ∧ k ≠ 3 ∧ k ≠ 4) ∧ l = 3) ∨ (k = 0 ∧ (l ≠ 3 ∧ l ≠ 4)) ∨ ((k ≠ 0 ∧ k ≠ 3 ∧ k ≠ 4) ∧ (l ≠ 3 ∧ l ≠ 4)) := by omega
  rcases hcl with h | h | h | h | h | h | h | h
  · have h0 := h
    subst h0
    rw [if_pos (.inl rfl)] at hF
    have HF := Lib.hid hF
    clear hF
    clear FIN
    go_enter Tryd.func19, Tryd.ntmps19
    go_wp2_with fail
    refine (K1.out).mono ?_
    rintro _ w' ⟨rfl, rfl⟩
    go_wp2_with fail
    refine (K2.out).mono ?_
    rintro _ w' ⟨rfl, rfl⟩
    go_wp2_with fail
    refine (N1.out).mono ?_
    rintro _ w' ⟨rfl, rfl⟩
    go_wp2_with fail
    refine (N2.out).mono ?_
    rintro _ w' ⟨rfl, rfl⟩
    go_wp2_with fail
    refine NN.out.mono ?_
    rintro _ w' ⟨rfl, rfl⟩
    go_wp2_with fail
    go_ret
    exact ⟨ret1 (by rw [HF.out]), Below.refl _ _⟩
  · obtain ⟨h0, h1⟩ := h
    have gk4 : ((k : Int) == 4) = false := by simp; omega
    subst h1
    rw [if_pos (.inr (.inl rfl))] at hF
    have HF := Lib.hid hF
    clear hF
    clear FIN
    go_enter Tryd.func19, Tryd.ntmps19
    go_wp2_with fail
    refine (K1.out).mono ?_
    rintro _ w' ⟨rfl, rfl⟩
    go_wp2_with fail
    refine (K2.out).mono ?_
    rintro _ w' ⟨rfl, rfl⟩
    go_wp2_with fail
    refine (N1.out).mono ?_
    rintro _ w' ⟨rfl, rfl⟩
    go_wp2_with fail
    refine (N2.out).mono ?_
    rintro _ w' ⟨rfl, rfl⟩
    go_wp2_with fail
    refine NN.out.mono ?_
    rintro _ w' ⟨rfl, rfl⟩
    go_wp2_with fail
    go_ret
    exact ⟨ret1 (by rw [HF.out]), Below.refl _ _⟩
  · obtain ⟨h0, h1⟩ := h
    subst h0
    subst h1
    rw [if_pos (.inr (.inr (.inl ⟨rfl, rfl⟩)))] at hF
    have HF := Lib.hid hF
    clear hF
    clear FIN
    go_enter Tryd.func19, Tryd.ntmps19
    go_wp2_with fail
    refine (K1.out).mono ?_
    rintro _ w' ⟨rfl, rfl⟩
    go_wp2_with fail
    refine (K2.out).mono ?_
    rintro _ w' ⟨rfl, rfl⟩
    go_wp2_with fail
    refine (N1.out).mono ?_
    rintro _ w' ⟨rfl, rfl⟩
    go_wp2_with fail
    refine (N2.out).mono ?_
    rintro _ w' ⟨rfl, rfl⟩
    go_wp2_with fail
    refine NN.out.mono ?_
    rintro _ w' ⟨rfl, rfl⟩
    go_wp2_with fail
    go_ret
    exact ⟨ret1 (by rw [HF.out]), Below.refl _ _⟩
  · obtain ⟨h0, h1⟩ := h
    subst h0
    subst h1
    rw [if_pos (.inr (.inr (.inr ⟨rfl, rfl⟩)))] at hF
    have HF := Lib.hid hF
    clear hF
    clear FIN
    go_enter Tryd.func19, Tryd.ntmps19
    go_wp2_with fail
    refine (K1.out).mono ?_
    rintro _ w' ⟨rfl, rfl⟩
    go_wp2_with fail
    refine (K2.out).mono ?_
    rintro _ w' ⟨rfl, rfl⟩
    go_wp2_with fail
    refine (N1.out).mono ?_
    rintro _ w' ⟨rfl, rfl⟩
    go_wp2_with fail
    refine (N2.out).mono ?_
    rintro _ w' ⟨rfl, rfl⟩
    go_wp2_with fail
    refine NN.out.mono ?_
    rintro _ w' ⟨rfl, rfl⟩
    go_wp2_with fail
    go_ret
    exact ⟨ret1 (by rw [HF.out]), Below.refl _ _⟩
  · obtain ⟨h0, h1⟩ := h
    have hc0 : ¬ (k = 4 ∨ l = 4 ∨ (k = 3 ∧ l = 0) ∨ (k = 0 ∧ l = 3)) := by omega
    subst h0
    have gl0 : ((l : Int) == 0) = false := by simp; omega
    have gl4 : ((l : Int) == 4) = false := by simp; omega
    rw [if_neg hc0, if_pos (.inl rfl)] at hF
    have HF := Lib.hid hF
    clear hF
    clear FIN
    go_enter Tryd.func19, Tryd.ntmps19
    go_wp2_with fail
    refine (K1.out).mono ?_
    rintro _ w' ⟨rfl, rfl⟩
    go_wp2_with fail
    refine (K2.out).mono ?_
    rintro _ w' ⟨rfl, rfl⟩
    go_wp2_with fail
    refine (N1.out).mono ?_
    rintro _ w' ⟨rfl, rfl⟩
    go_wp2_with fail
    refine (N2.out).mono ?_
    rintro _ w' ⟨rfl, rfl⟩
    go_wp2_with fail
    refine II.out.mono ?_
    rintro _ w' ⟨rfl, rfl⟩
    go_wp2_with fail
    go_ret
    exact ⟨ret1 (by rw [HF.out]), Below.refl _ _⟩
  · obtain ⟨h0, h1⟩ := h
    have hc0 : ¬ (k = 4 ∨ l = 4 ∨ (k = 3 ∧ l = 0) ∨ (k = 0 ∧ l = 3)) := by omega
    have gk0 : ((k : Int) == 0) = false := by simp; omega
    have gk3 : ((k : Int) == 3) = false := by simp; omega
    have gk4 : ((k : Int) == 4) = false := by simp; omega
    subst h1
    rw [if_neg hc0, if_pos (.inr rfl)] at hF
    have HF := Lib.hid hF
    clear hF
    clear FIN
    go_enter Tryd.func19, Tryd.ntmps19
    go_wp2_with fail
    refine (K1.out).mono ?_
    rintro _ w' ⟨rfl, rfl⟩
    go_wp2_with fail
    refine (K2.out).mono ?_
    rintro _ w' ⟨rfl, rfl⟩
    go_wp2_with fail
    refine (N1.out).mono ?_
    rintro _ w' ⟨rfl, rfl⟩
    go_wp2_with fail
    refine (N2.out).mono ?_
    rintro _ w' ⟨rfl, rfl⟩
    go_wp2_with fail
    refine II.out.mono ?_
    rintro _ w' ⟨rfl, rfl⟩
    go_wp2_with fail
    go_ret
    exact ⟨ret1 (by rw [HF.out]), Below.refl _ _⟩
  · obtain ⟨h0, h1⟩ := h
    have hc0 : ¬ (k = 4 ∨ l = 4 ∨ (k = 3 ∧ l = 0) ∨ (k = 0 ∧ l = 3)) := by omega
    have hc1 : ¬ (k = 3 ∨ l = 3) := by omega
    subst h0
    have gl3 : ((l : Int) == 3) = false := by simp; omega
    have gl4 : ((l : Int) == 4) = false := by simp; omega
    rw [if_neg hc0, if_neg hc1] at hF
    have HF := Lib.hid hF
    clear hF
    obtain ⟨x, y, hi, lo, z, ax, bx, e, ⟨q1, q2, q3, q4, q5, q6⟩, C1, C2, C3, C4, C5⟩ := FIN (by omega) (by omega)
    have D1 := Lib.hid C1
    have D2 := Lib.hid C2
    have D3 := Lib.hid C3
    have D4 := Lib.hid C4
    have D5 := Lib.hid C5
    clear C1 C2 C3 C4 C5 FIN
    go_enter Tryd.func19, Tryd.ntmps19
    go_wp2_with fail
    refine (K1.out).mono ?_
    rintro _ w' ⟨rfl, rfl⟩
    go_wp2_with fail
    refine (K2.out).mono ?_
    rintro _ w' ⟨rfl, rfl⟩
    go_wp2_with fail
    refine (N1.out).mono ?_
    rintro _ w' ⟨rfl, rfl⟩
    go_wp2_with fail
    refine (N2.out).mono ?_
    rintro _ w' ⟨rfl, rfl⟩
    go_wp2_with fail
    refine (D1.out).mono ?_
    rintro _ w' ⟨rfl, rfl⟩
    go_wp2_with fail
    refine (D2.out).mono ?_
    rintro _ w' ⟨rfl, rfl⟩
    go_wp2_with fail
    refine (D3.out).mono ?_
    rintro _ w' ⟨rfl, rfl⟩
    go_wp2_with fail
    refine (D4.out).mono ?_
    rintro _ w' ⟨rfl, rfl⟩
    go_wp2_with fail
    with_reducible refine (D5.out).mono ?_
    rintro _ w' ⟨rfl, bb⟩
    go_wp2_with fail
    go_ret
    exact ⟨ret1 (by rw [HF.out]), bb⟩
  · obtain ⟨h0, h1⟩ := h
    have hc0 : ¬ (k = 4 ∨ l = 4 ∨ (k = 3 ∧ l = 0) ∨ (k = 0 ∧ l = 3)) := by omega
    have hc1 : ¬ (k = 3 ∨ l = 3) := by omega
    have gk0 : ((k : Int) == 0) = false := by simp; omega
    have gk3 : ((k : Int) == 3) = false := by simp; omega
    have gk4 : ((k : Int) == 4) = false := by simp; omega
    have gl3 : ((l : Int) == 3) = false := by simp; omega
    have gl4 : ((l : Int) == 4) = false := by simp; omega
    rw [if_neg hc0, if_neg hc1] at hF
    have HF := Lib.hid hF
    clear hF
    obtain ⟨x, y, hi, lo, z, ax, bx, e, ⟨q1, q2, q3, q4, q5, q6⟩, C1, C2, C3, C4, C5⟩ := FIN (by omega) (by omega)
    have D1 := Lib.hid C1
    have D2 := Lib.hid C2
    have D3 := Lib.hid C3
    have D4 := Lib.hid C4
    have D5 := Lib.hid C5
    clear C1 C2 C3 C4 C5 FIN
    go_enter Tryd.func19, Tryd.ntmps19
    go_wp2_with fail
    refine (K1.out).mono ?_
    rintro _ w' ⟨rfl, rfl⟩
    go_wp2_with fail
    refine (K2.out).mono ?_
    rintro _ w' ⟨rfl, rfl⟩
    go_wp2_with fail
    refine (N1.out).mono ?_
    rintro _ w' ⟨rfl, rfl⟩
    go_wp2_with fail
    refine (N2.out).mono ?_
    rintro _ w' ⟨rfl, rfl⟩
    go_wp2_with fail
    refine (D1.out).mono ?_
    rintro _ w' ⟨rfl, rfl⟩
    go_wp2_with fail
    refine (D2.out).mono ?_
    rintro _ w' ⟨rfl, rfl⟩
    go_wp2_with fail
    refine (D3.out).mono ?_
    rintro _ w' ⟨rfl, rfl⟩
    go_wp2_with fail
    refine (D4.out).mono ?_
    rintro _ w' ⟨rfl, rfl⟩
    go_wp2_with fail
    with_reducible refine (D5.out).mono ?_
    rintro _ w' ⟨rfl, bb⟩
    go_wp2_with fail
    go_ret
    exact ⟨ret1 (by rw [HF.out]), bb⟩

set_option maxRecDepth 100000 in
set_option maxHeartbeats 8000000 in
theorem fp_div {a b : Nat} (ha : a < 18446744073709551616) (hb : b < 18446744073709551616) (w : World) :
    Calls Tryd.prog 69 #[.int .u64 a, .int .u64 b] w (RetW (fdiv a b) w) := by
  have K1 := Lib.hid (fb_kind ha w)
  have K2 := Lib.hid (fb_kind hb w)
  have N1 := Lib.hid (fb_neg ha w)
  have N2 := Lib.hid (fb_neg hb w)
  have NN := Lib.hid (fb_nan w)
  have II := Lib.hid (fb_inf (ng a != ng b) w)
  have c1 := kd_cases a
  have c2 := kd_cases b
  have hF : fdiv a b = if kd a = 4 ∨ kd b = 4 ∨ (kd a = 3 ∧ kd b = 3) ∨ (kd a = 0 ∧ kd b = 0) then NAN else if kd a = 3 ∨ kd b = 0 then sg (ng a != ng b) INF else if kd a = 0 ∨ kd b = 3 then sg (ng a != ng b) 0 else sg (ng a != ng b) (magR (sig a) (sig b) (xpo a - xpo b)) := rfl
  have ZZ : Calls Tryd.prog 44 #[.bool (ng a != ng b), .int .u64 0, .int .i64 0] w (RetW (sg (ng a != ng b) 0) w) := by
    have W0 := fr_word (ng a != ng b) (m := 0) (by omega) (e := 0) (by omega) (by omega) w
    rw [magR_zero] at W0
    exact W0
  have FIN : ∀ (h1 : kd a = 1 ∨ kd a = 2) (h2 : kd b = 1 ∨ kd b = 2), ∃ (x y hf q lo z : Nat) (ax bx e : Int), (q < 18446744073709551616 ∧ -3000 ≤ ax ∧ ax ≤ 3000 ∧ -3000 ≤ bx ∧ bx ≤ 3000 ∧ ax - bx + 1 - 64 = e ∧ (x : Int) / 2 = hf) ∧
      Calls Tryd.prog 48 #[.int .u64 a] w (fun e w' => e = .returned (.tuple #[.int .u64 x, .int .i64 ax]) ∧ w = w') ∧
      Calls Tryd.prog 48 #[.int .u64 b] w (fun e w' => e = .returned (.tuple #[.int .u64 y, .int .i64 bx]) ∧ w = w') ∧
      Calls Tryd.prog 86 #[.int .u64 hf, .int .u64 0, .int .u64 y] w (fun e w' => e = .returned (.tuple #[.int .u64 q, .int .u64 lo, .bool true]) ∧ ∃ n, w' = w.drewN n) ∧
      (∀ w, Calls Tryd.prog 50 #[.int .u64 q, .int .u64 lo] w (fun e w' => e = .returned (.int .u64 z) ∧ w = w')) ∧
      (∀ w, Calls Tryd.prog 44 #[.bool (ng a != ng b), .int .u64 z, .int .i64 e] w (RetW (sg (ng a != ng b) (magR (sig a) (sig b) (xpo a - xpo b))) w)) := by
    intro h1 h2
    have f1 := c1.2.1 (by omega)
    have f2 := c2.2.1 (by omega)
    have p1 := sig_pos h1
    have p2 := sig_pos h2
    have r1 := fxp_range f1
    have r2 := fxp_range f2
    have l1 := fsg_lt a
    have l2 := fsg_lt b
    have g2 := fsg_ge p2
    have M := limb_div_yes ((fsg a / 2 : Nat) : Int) 0 (fsg b : Int) (by unfold U; omega) (by unfold U; omega) (by unfold U; omega) (by omega) w
    have hdv : (((fsg a / 2 : Nat) : Int) * 18446744073709551616 + 0) / (fsg b : Int) = ((fsg a / 2 * 18446744073709551616 / fsg b : Nat) : Int) ∧ (((fsg a / 2 : Nat) : Int) * 18446744073709551616 + 0) % (fsg b : Int) = ((fsg a / 2 * 18446744073709551616 % fsg b : Nat) : Int) := by
      have e : ((fsg a / 2 : Nat) : Int) * 18446744073709551616 + 0 = ((fsg a / 2 * 18446744073709551616 : Nat) : Int) := by omega
      rw [e]
      exact ⟨by rw [Int.natCast_ediv], by rw [Int.natCast_emod]⟩
    rw [hdv.1, hdv.2] at M
    have hq : fsg a / 2 * 18446744073709551616 / fsg b < 18446744073709551616 := by
      rw [Nat.div_lt_iff_lt_mul (by omega)]
      omega
    refine ⟨fsg a, fsg b, fsg a / 2, _, _, _, fxp a, fxp b, _, ⟨hq, by omega, by omega, by omega, by omega, rfl, by omega⟩, fp_full ha f1 w, fp_full hb f2 w, M, fun w => fp_mark hq w, ?_⟩
    intro w
    have W1 := fr_word (ng a != ng b) (mkd_lt hq (decide (fsg a / 2 * 18446744073709551616 % fsg b ≠ 0))) (e := fxp a - fxp b + 1 - 64) (by omega) (by omega) w
    rw [div_round p1 p2] at W1
    exact W1
  generalize magR (sig a) (sig b) (xpo a - xpo b) = V at *
  replace c1 := c1.1
  replace c2 := c2.1
  generalize fdiv a b = F at *
  generalize kd a = k at *
  generalize kd b = l at *
  obtain ⟨sn, hs⟩ : ∃ sn, (ng a != ng b) = sn := ⟨_, rfl⟩
  rw [hs] at hF II FIN ZZ
  generalize ng a = n1 at *
  generalize ng b = n2 at *
  have hs2 : (!(n1 == n2)) = sn := hs
  have HZ := Lib.hid ZZ
  clear ZZ
  have hcl : (k = 4) ∨ (k ≠ 4 ∧ l = 4) ∨ (k = 3 ∧ l = 3) ∨ (k = 0 ∧ l = 0) ∨ (k = 3 ∧ (l ≠ 3 ∧ l ≠ 4)) ∨ ((k ≠ 0 ∧ k ≠ 3 ∧ k ≠ 4) ∧ l = 0) ∨ (k = 0 ∧ (l ≠ 0 ∧ l ≠ 4)) ∨ ((k ≠ 0 ∧ k ≠ 3 ∧ k ≠ 4) ∧ l = 3) ∨ ((k ≠ 0 ∧ k ≠ 3 ∧ k ≠ 4) ∧ (l ≠ 0 ∧ l ≠ 3 ∧ l ≠ 4)) := by omega
  rcases hcl with h | h | h | h | h | h | h | h | h
  · have h0 := h
    subst h0
    rw [if_pos (.inl rfl)] at hF
    have HF := Lib.hid hF
    clear hF
    clear FIN
    go_enter Tryd.func69, Tryd.ntmps69
    go_wp2_with fail
    refine (K1.out).mono ?_
    rintro _ w' ⟨rfl, rfl⟩
    go_wp2_with fail
    refine (K2.out).mono ?_
    rintro _ w' ⟨rfl, rfl⟩
    go_wp2_with fail
    refine (N1.out).mono ?_
    rintro _ w' ⟨rfl, rfl⟩
    go_wp2_with fail
    refine (N2.out).mono ?_
    rintro _ w' ⟨rfl, rfl⟩
    go_wp2_with fail
    refine NN.out.mono ?_
    rintro _ w' ⟨rfl, rfl⟩
    go_wp2_with fail
    go_ret
    exact ⟨ret1 (by rw [HF.out]), Below.refl _ _⟩
  · obtain ⟨h0, h1⟩ := h
    have gk4 : ((k : Int) == 4) = false := by simp; omega
    subst h1
    rw [if_pos (.inr (.inl rfl))] at hF
    have HF := Lib.hid hF
    clear hF
    clear FIN
    go_enter Tryd.func69, Tryd.ntmps69
    go_wp2_with fail
    refine (K1.out).mono ?_
    rintro _ w' ⟨rfl, rfl⟩
    go_wp2_with fail
    refine (K2.out).mono ?_
    rintro _ w' ⟨rfl, rfl⟩
    go_wp2_with fail
    refine (N1.out).mono ?_
    rintro _ w' ⟨rfl, rfl⟩
    go_wp2_with fail
    refine (N2.out).mono ?_
    rintro _ w' ⟨rfl, rfl⟩
    go_wp2_with fail
    refine NN.out.mono ?_
    rintro _ w' ⟨rfl, rfl⟩
    go_wp2_with fail
    go_ret
    exact ⟨ret1 (by rw [HF.out]), Below.refl _ _⟩
  · obtain ⟨h0, h1⟩ := h
    subst h0
    subst h1
    rw [if_pos (.inr (.inr (.inl ⟨rfl, rfl⟩)))] at hF
    have HF := Lib.hid hF
    clear hF
    clear FIN
    go_enter Tryd.func69, Tryd.ntmps69
    go_wp2_with fail
    refine (K1.out).mono ?_
    rintro _ w' ⟨rfl, rfl⟩
    go_wp2_with fail
    refine (K2.out).mono ?_
    rintro _ w' ⟨rfl, rfl⟩
    go_wp2_with fail
    refine (N1.out).mono ?_
    rintro _ w' ⟨rfl, rfl⟩
    go_wp2_with fail
    refine (N2.out).mono ?_
    rintro _ w' ⟨rfl, rfl⟩
    go_wp2_with fail
    refine NN.out.mono ?_
    rintro _ w' ⟨rfl, rfl⟩
    go_wp2_with fail
    go_ret
    exact ⟨ret1 (by rw [HF.out]), Below.refl _ _⟩
  · obtain ⟨h0, h1⟩ := h
    subst h0
    subst h1
    rw [if_pos (.inr (.inr (.inr ⟨rfl, rfl⟩)))] at hF
    have HF := Lib.hid hF
    clear hF
    clear FIN
    go_enter Tryd.func69, Tryd.ntmps69
    go_wp2_with fail
    refine (K1.out).mono ?_
    rintro _ w' ⟨rfl, rfl⟩
    go_wp2_with fail
    refine (K2.out).mono ?_
    rintro _ w' ⟨rfl, rfl⟩
    go_wp2_with fail
    refine (N1.out).mono ?_
    rintro _ w' ⟨rfl, rfl⟩
    go_wp2_with fail
    refine (N2.out).mono ?_
    rintro _ w' ⟨rfl, rfl⟩
    go_wp2_with fail
    refine NN.out.mono ?_
    rintro _ w' ⟨rfl, rfl⟩
    go_wp2_with fail
    go_ret
    exact ⟨ret1 (by rw [HF.out]), Below.refl _ _⟩
  · obtain ⟨h0, h1⟩ := h
    have hc0 : ¬ (k = 4 ∨ l = 4 ∨ (k = 3 ∧ l = 3) ∨ (k = 0 ∧ l = 0)) := by omega
    subst h0
    have gl3 : ((l : Int) == 3) = false := by simp; omega
    have gl4 : ((l : Int) == 4) = false := by simp; omega
    rw [if_neg hc0, if_pos (.inl rfl)] at hF
    have HF := Lib.hid hF
    clear hF
    clear FIN
    go_enter Tryd.func69, Tryd.ntmps69
    go_wp2_with fail
    refine (K1.out).mono ?_
    rintro _ w' ⟨rfl, rfl⟩
    go_wp2_with fail
    refine (K2.out).mono ?_
    rintro _ w' ⟨rfl, rfl⟩
    go_wp2_with fail
    refine (N1.out).mono ?_
    rintro _ w' ⟨rfl, rfl⟩
    go_wp2_with fail
    refine (N2.out).mono ?_
    rintro _ w' ⟨rfl, rfl⟩
    go_wp2_with fail
    refine II.out.mono ?_
    rintro _ w' ⟨rfl, rfl⟩
    go_wp2_with fail
    go_ret
    exact ⟨ret1 (by rw [HF.out]), Below.refl _ _⟩
  · obtain ⟨h0, h1⟩ := h
    have hc0 : ¬ (k = 4 ∨ l = 4 ∨ (k = 3 ∧ l = 3) ∨ (k = 0 ∧ l = 0)) := by omega
    have gk0 : ((k : Int) == 0) = false := by simp; omega
    have gk3 : ((k : Int) == 3) = false := by simp; omega
    have gk4 : ((k : Int) == 4) = false := by simp; omega
    subst h1
    rw [if_neg hc0, if_pos (.inr rfl)] at hF
    have HF := Lib.hid hF
    clear hF
    clear FIN
    go_enter Tryd.func69, Tryd.ntmps69
    go_wp2_with fail
    refine (K1.out).mono ?_
    rintro _ w' ⟨rfl, rfl⟩
    go_wp2_with fail
    refine (K2.out).mono ?_
    rintro _ w' ⟨rfl, rfl⟩
    go_wp2_with fail
    refine (N1.out).mono ?_
    rintro _ w' ⟨rfl, rfl⟩
    go_wp2_with fail
    refine (N2.out).mono ?_
    rintro _ w' ⟨rfl, rfl⟩
    go_wp2_with fail
    refine II.out.mono ?_
    rintro _ w' ⟨rfl, rfl⟩
    go_wp2_with fail
    go_ret
    exact ⟨ret1 (by rw [HF.out]), Below.refl _ _⟩
  · obtain ⟨h0, h1⟩ := h
    have hc0 : ¬ (k = 4 ∨ l = 4 ∨ (k = 3 ∧ l = 3) ∨ (k = 0 ∧ l = 0)) := by omega
    have hc1 : ¬ (k = 3 ∨ l = 0) := by omega
    subst h0
    have gl0 : ((l : Int) == 0) = false := by simp; omega
    have gl4 : ((l : Int) == 4) = false := by simp; omega
    rw [if_neg hc0, if_neg hc1, if_pos (.inl rfl)] at hF
    have HF := Lib.hid hF
    clear hF
    clear FIN
    go_enter Tryd.func69, Tryd.ntmps69
    go_wp2_with fail
    refine (K1.out).mono ?_
    rintro _ w' ⟨rfl, rfl⟩
    go_wp2_with fail
    refine (K2.out).mono ?_
    rintro _ w' ⟨rfl, rfl⟩
    go_wp2_with fail
    refine (N1.out).mono ?_
    rintro _ w' ⟨rfl, rfl⟩
    go_wp2_with fail
    refine (N2.out).mono ?_
    rintro _ w' ⟨rfl, rfl⟩
    go_wp2_with fail
    with_reducible refine (HZ.out).mono ?_
    rintro _ w' ⟨rfl, bb⟩
    go_wp2_with fail
    go_ret
    exact ⟨ret1 (by rw [HF.out]), bb⟩
  · obtain ⟨h0, h1⟩ := h
    have hc0 : ¬ (k = 4 ∨ l = 4 ∨ (k = 3 ∧ l = 3) ∨ (k = 0 ∧ l = 0)) := by omega
    have hc1 : ¬ (k = 3 ∨ l = 0) := by omega
    have gk0 : ((k : Int) == 0) = false := by simp; omega
    have gk3 : ((k : Int) == 3) = false := by simp; omega
    have gk4 : ((k : Int) == 4) = false := by simp; omega
    subst h1
    rw [if_neg hc0, if_neg hc1, if_pos (.inr rfl)] at hF
    have HF := Lib.hid hF
    clear hF
    clear FIN
    go_enter Tryd.func69, Tryd.ntmps69
    go_wp2_with fail
    refine (K1.out).mono ?_
    rintro _ w' ⟨rfl, rfl⟩
    go_wp2_with fail
    refine (K2.out).mono ?_
    rintro _ w' ⟨rfl, rfl⟩
    go_wp2_with fail
    refine (N1.out).mono ?_
    rintro _ w' ⟨rfl, rfl⟩
    go_wp2_with fail
    refine (N2.out).mono ?_
    rintro _ w' ⟨rfl, rfl⟩
    go_wp2_with fail
    with_reducible refine (HZ.out).mono ?_
    rintro _ w' ⟨rfl, bb⟩
    go_wp2_with fail
    go_ret
    exact ⟨ret1 (by rw [HF.out]), bb⟩
  · obtain ⟨h0, h1⟩ := h
    have hc0 : ¬ (k = 4 ∨ l = 4 ∨ (k = 3 ∧ l = 3) ∨ (k = 0 ∧ l = 0)) := by omega
    have hc1 : ¬ (k = 3 ∨ l = 0) := by omega
    have hc2 : ¬ (k = 0 ∨ l = 3) := by omega
    have gk0 : ((k : Int) == 0) = false := by simp; omega
    have gk3 : ((k : Int) == 3) = false := by simp; omega
    have gk4 : ((k : Int) == 4) = false := by simp; omega
    have gl0 : ((l : Int) == 0) = false := by simp; omega
    have gl3 : ((l : Int) == 3) = false := by simp; omega
    have gl4 : ((l : Int) == 4) = false := by simp; omega
    rw [if_neg hc0, if_neg hc1, if_neg hc2] at hF
    have HF := Lib.hid hF
    clear hF
    obtain ⟨x, y, hf, q, lo, z, ax, bx, e, ⟨q1, q2, q3, q4, q5, q6, q7⟩, C1, C2, C3, C4, C5⟩ := FIN (by omega) (by omega)
    have D1 := Lib.hid C1
    have D2 := Lib.hid C2
    have D3 := Lib.hid C3
    have D4 := Lib.hid C4
    have D5 := Lib.hid C5
    clear C1 C2 C3 C4 C5 FIN
    go_enter Tryd.func69, Tryd.ntmps69
    go_wp2_with fail
    refine (K1.out).mono ?_
    rintro _ w' ⟨rfl, rfl⟩
    go_wp2_with fail
    refine (K2.out).mono ?_
    rintro _ w' ⟨rfl, rfl⟩
    go_wp2_with fail
    refine (N1.out).mono ?_
    rintro _ w' ⟨rfl, rfl⟩
    go_wp2_with fail
    refine (N2.out).mono ?_
    rintro _ w' ⟨rfl, rfl⟩
    go_wp2_with fail
    refine (D1.out).mono ?_
    rintro _ w' ⟨rfl, rfl⟩
    go_wp2_with fail
    refine (D2.out).mono ?_
    rintro _ w' ⟨rfl, rfl⟩
    go_wp2_with fail
    refine D3.out.mono ?_
    rintro _ w' ⟨rfl, nd, rfl⟩
    have b0 := below_drewN w nd
    generalize w.drewN nd = v at *
    go_wp2_with fail
    refine (D4.out _).mono ?_
    rintro _ w' ⟨rfl, rfl⟩
    go_wp2_with fail
    with_reducible refine (D5.out _).mono ?_
    rintro _ w' ⟨rfl, bb⟩
    go_wp2_with fail
    go_ret
    exact ⟨ret1 (by rw [HF.out]), bbw b0 bb⟩

end Go.Proofs.YtmoahgiklgicgaaDoor

namespace Go.Proofs.YtmoahgiklgicgaaDoor
set_option maxRecDepth 100000
open Go.RowKit
set_option linter.unusedVariables false
set_option linter.unusedSimpArgs false

theorem inf_kd : kd INF = 3 := by decide +kernel
theorem inf_ng : ng INF = false := by decide +kernel
theorem sg_false (v : Nat) : sg false v = v := rfl
theorem rtx_even (b : Nat) : rtx b % 2 = 0 := by unfold rtx; split <;> omega
theorem tmod_even {X : Int} (h : X % 2 = 0) : (Int.tmod X 2 != 0) = false := by
  have : Int.tmod X 2 = 0 := Int.tmod_eq_zero_of_dvd (Int.dvd_of_emod_eq_zero h)
  rw [this]; rfl
theorem tmod_odd {X : Int} (h : ¬ X % 2 = 0) : (Int.tmod X 2 != 0) = true := by
  have : ¬ Int.tmod X 2 = 0 := fun h2 => h (Int.emod_eq_zero_of_dvd (Int.dvd_of_tmod_eq_zero h2))
  simpa using this
end Go.Proofs.YtmoahgiklgicgaaDoor
