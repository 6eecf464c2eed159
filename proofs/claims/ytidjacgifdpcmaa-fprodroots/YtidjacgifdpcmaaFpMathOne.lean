/-
  Products, quotients and roots of doubles, plainly: what the program's words round to. Conditions: as each lemma says.
-/
import Derived.Test.YtidjacgifdpcmaaFsMath
import Derived.Test.YtidjacgifdpcmaaFrRunAll
import Derived.Test.YtidjacgifdpcmaaQuotMath
namespace Go.Proofs.Ytidjacgifdpcmaa
set_option maxRecDepth 100000
open Go.RowKit
set_option linter.unusedVariables false
set_option linter.unusedSimpArgs false

/-- a significand whose highest bit is that of the word, and its exponent -/
def fsg (b : Nat) : Nat := sig b * 2 ^ (64 - blen (sig b))
def fxp (b : Nat) : Int := xpo b - ((64 - blen (sig b) : Nat) : Int)
theorem sig_blen (b : Nat) : blen (sig b) ≤ 53 := blen_le (by have := sig_lt b; omega)
theorem fsg_lt (b : Nat) : fsg b < 18446744073709551616 := by
  have h1 := blen_lt (sig b)
  have h2 := sig_blen b
  unfold fsg
  have h3 : sig b * 2 ^ (64 - blen (sig b)) < 2 ^ blen (sig b) * 2 ^ (64 - blen (sig b)) := Nat.mul_lt_mul_of_pos_right h1 (Nat.two_pow_pos _)
  rw [← Nat.pow_add, show blen (sig b) + (64 - blen (sig b)) = 64 by omega] at h3
  exact h3
theorem fsg_ge {b : Nat} (h : 0 < sig b) : 9223372036854775808 ≤ fsg b := by
  have h1 := blen_self h
  have h0 := blen_pos h
  have h2 := sig_blen b
  unfold fsg
  have h3 : 2 ^ (blen (sig b) - 1) * 2 ^ (64 - blen (sig b)) ≤ sig b * 2 ^ (64 - blen (sig b)) := Nat.mul_le_mul_right _ h1
  rw [← Nat.pow_add, show blen (sig b) - 1 + (64 - blen (sig b)) = 63 by omega] at h3
  exact h3
theorem fsg_half (b : Nat) : fsg b % 2 = 0 ∧ fsg b / 2 = sig b * 2 ^ (63 - blen (sig b)) := by
  have h2 := sig_blen b
  have e : fsg b = sig b * 2 ^ (63 - blen (sig b)) * 2 := by
    unfold fsg
    rw [show 64 - blen (sig b) = 63 - blen (sig b) + 1 by omega, Nat.pow_succ, Nat.mul_assoc]
  rw [e]
  omega
/-- a finite double that is not 0 has a significand -/
theorem sig_pos {b : Nat} (h : kd b = 1 ∨ kd b = 2) : 0 < sig b := by
  unfold kd at h
  unfold sig
  split at h
  · split at h <;> omega
  · split at h
    · rename_i h1
      rw [if_pos h1]
      split at h
      · omega
      · omega
    · rename_i h1
      rw [if_neg h1]; omega
theorem sig_zero {b : Nat} (h : kd b = 0) : sig b = 0 := by
  unfold kd at h
  unfold sig
  split at h
  · split at h <;> omega
  · split at h
    · rename_i h1
      rw [if_pos h1]
      split at h
      · assumption
      · omega
    · omega

/-! ### products -/
theorem mul_round (a b : Nat) : magR (mkd (fsg a * fsg b / 18446744073709551616) (decide (fsg a * fsg b % 18446744073709551616 ≠ 0))) 1 (fxp a + fxp b + 64) = magR (sig a * sig b) 1 (xpo a + xpo b) := by
  rw [mkd_round _ (by omega)]
  · have h1 := sig_blen a
    have h2 := sig_blen b
    refine magR_eq (a := 64) (b := (64 - blen (sig a)) + (64 - blen (sig b))) (by omega) (by omega) ?_ (by unfold fxp; omega)
    unfold fsg
    rw [show (18446744073709551616 : Nat) = 2 ^ 64 by decide, Nat.pow_add]
    grind
  · intro hr
    have p1 : 0 < sig a := by
      rcases Nat.eq_zero_or_pos (sig a) with h | h
      · exfalso; apply hr; unfold fsg; rw [h, Nat.zero_mul, Nat.zero_mul]
      · exact h
    have p2 : 0 < sig b := by
      rcases Nat.eq_zero_or_pos (sig b) with h | h
      · exfalso; apply hr; unfold fsg; rw [h, Nat.zero_mul, Nat.mul_zero]
      · exact h
    have h3 := Nat.mul_le_mul (fsg_ge p1) (fsg_ge p2)
    refine blen_ge (k := 54) ?_
    rw [Nat.le_div_iff_mul_le (by omega)]
    generalize fsg a * fsg b = z at *
    omega
/-! ### quotients -/
theorem div_round {a b : Nat} (pa : 0 < sig a) (pb : 0 < sig b) : magR (mkd (fsg a / 2 * 18446744073709551616 / fsg b) (decide (fsg a / 2 * 18446744073709551616 % fsg b ≠ 0))) 1 (fxp a - fxp b + 1 - 64) = magR (sig a) (sig b) (xpo a - xpo b) := by
  have g1 := fsg_ge pa
  have g2 := fsg_ge pb
  have l2 := fsg_lt b
  rw [mkd_round _ (by omega)]
  · have h1 := sig_blen a
    have h2 := sig_blen b
    refine magR_eq (a := 64 - blen (sig b)) (b := (64 - blen (sig a)) + 63) (by omega) pb ?_ (by unfold fxp; omega)
    rw [(fsg_half a).2]
    unfold fsg
    obtain ⟨n, hn⟩ : ∃ n, 64 - blen (sig a) = n + 1 := ⟨63 - blen (sig a), by omega⟩
    rw [hn, show 63 - blen (sig a) = n by omega, show (18446744073709551616 : Nat) = 2 ^ 64 by decide, show n + 1 + 63 = n + 64 by omega, Nat.pow_add 2 n 64]
    grind
  · intro hr
    refine blen_ge (k := 54) ?_
    rw [Nat.le_div_iff_mul_le (by omega)]
    omega
theorem magM_div {P Q : Nat} (e : Int) (hQ : 0 < Q) (hb : 54 ≤ blen (P / Q)) : magM (P / Q) e (decide (0 < P % Q)) = magR P Q e := by
  by_cases h : P % Q = 0
  · rw [decide_eq_false (by omega), magM_no]; exact mark_exact e hQ h
  · rw [decide_eq_true (by omega), magM_yes, ← magR_two, magR_sticky e hQ h hb]
/-- the document's quotient: both significands of 53 bits -/
theorem refdiv_round {a b i j : Nat} (pa : 0 < sig a) (pb : 0 < sig b) (ha : B52 ≤ sig a * 2 ^ i) (hb : sig b * 2 ^ j < 2 * B52) :
    magM (sig a * 2 ^ i * 1024 * 18446744073709551616 / (sig b * 2 ^ j * 2048)) (xpo a - i - (xpo b - j) - 63) (decide (0 < sig a * 2 ^ i * 1024 * 18446744073709551616 % (sig b * 2 ^ j * 2048))) = magR (sig a) (sig b) (xpo a - xpo b) := by
  have hp : 0 < sig b * 2 ^ j := Nat.mul_pos pb (Nat.two_pow_pos _)
  rw [magM_div _ (by omega)]
  · refine magR_eq (a := j) (b := i + 63) (by omega) pb ?_ (by omega)
    rw [show (18446744073709551616 : Nat) = 2 ^ 63 * 2 by decide, Nat.pow_add]
    grind
  · refine blen_ge (k := 53) ?_
    rw [Nat.le_div_iff_mul_le (by omega)]
    rw [B52_eq] at ha hb
    omega
/-! ### roots -/
/-- the double nearest to the root of N, times 2^e -/
def rtM (N : Nat) (e : Int) : Nat := magM (rt N) e (decide (rt N * rt N ≠ N))
theorem rtM_of {N r : Nat} (e : Int) (h1 : r * r ≤ N) (h2 : N < (r + 1) * (r + 1)) : rtM N e = magM r e (decide (r * r ≠ N)) := by
  unfold rtM; rw [rt_unique h1 h2]
theorem magM_mkd {r : Nat} (e : Int) (more : Bool) (hb : 55 ≤ blen r) : magR (mkd r more) 1 e = magM r e more := by
  cases more
  · rw [mkd_no, magM_no]
  · rw [mkd_yes, magM_yes, ← magR_two]
    have h1 : (2 * r + 1) / 2 = r := by omega
    have := mark_sticky (P := 2 * r + 1) (Q := 2) e (by omega) (by omega) (by rw [h1]; exact hb)
    rw [h1] at this
    exact this
theorem rt_scale_alg {N k r R : Nat} (h1 : r * r ≤ N) (h2 : N < (r + 1) * (r + 1)) (g1 : R * R ≤ N * (2 ^ k * 2 ^ k)) (g2 : N * (2 ^ k * 2 ^ k) < (R + 1) * (R + 1)) : r * 2 ^ k ≤ R ∧ R < (r + 1) * 2 ^ k := by
  have hp := Nat.two_pow_pos k
  generalize 2 ^ k = K at *
  constructor
  · rcases Nat.lt_or_ge R (r * K) with h | h
    · exfalso
      have a1 : (R + 1) * (R + 1) ≤ r * K * (r * K) := Nat.mul_le_mul h h
      have a2 : r * K * (r * K) = r * r * (K * K) := by grind
      have a3 : r * r * (K * K) ≤ N * (K * K) := Nat.mul_le_mul_right _ h1
      omega
    · exact h
  · rcases Nat.lt_or_ge R ((r + 1) * K) with h | h
    · exact h
    · exfalso
      have a1 : (r + 1) * K * ((r + 1) * K) ≤ R * R := Nat.mul_le_mul h h
      have a2 : (r + 1) * K * ((r + 1) * K) = (r + 1) * (r + 1) * (K * K) := by grind
      have a3 : N * (K * K) < (r + 1) * (r + 1) * (K * K) := Nat.mul_lt_mul_of_pos_right h2 (Nat.mul_pos hp hp)
      omega
theorem rtM_scale (N k : Nat) (e : Int) (hb : 54 ≤ blen (rt N)) : rtM (N * 2 ^ (2 * k)) (e - k) = rtM N e := by
  have hp := Nat.two_pow_pos k
  obtain ⟨h1, h2⟩ := rt_spec N
  obtain ⟨g1, g2⟩ := rt_spec (N * 2 ^ (2 * k))
  unfold rtM
  have e2 : N * 2 ^ (2 * k) = N * (2 ^ k * 2 ^ k) := by rw [← Nat.pow_add]; congr 2; omega
  rw [e2] at g1 g2 ⊢
  generalize rt (N * (2 ^ k * 2 ^ k)) = R at *
  generalize rt N = r at *
  obtain ⟨c1, c2⟩ := rt_scale_alg h1 h2 g1 g2
  by_cases hx : r * r = N
  · -- the root is exact
    have hR : R = r * 2 ^ k := by
      rcases Nat.eq_or_lt_of_le c1 with h | h
      · exact h.symm
      · exfalso
        have a1 : (r * 2 ^ k + 1) * (r * 2 ^ k + 1) ≤ R * R := Nat.mul_le_mul h h
        have a2 : r * 2 ^ k * (r * 2 ^ k) = N * (2 ^ k * 2 ^ k) := by rw [← hx]; grind
        have := sq_succ (r * 2 ^ k)
        omega
    have hRR : R * R = N * (2 ^ k * 2 ^ k) := by rw [hR, ← hx]; grind
    rw [decide_eq_false (by omega), decide_eq_false (by omega), magM_no, magM_no, hR, magR_shift _ _ _ (by omega)]
    congr 1
    omega
  · -- something is left
    rw [decide_eq_true (show r * r ≠ N from hx), magM_yes, ← magR_two]
    have hm : magM R (e - k) (decide (R * R ≠ N * (2 ^ k * 2 ^ k))) = magR (2 * R + (if R * R = N * (2 ^ k * 2 ^ k) then 0 else 1)) (2 ^ (k + 1)) e := by
      by_cases hy : R * R = N * (2 ^ k * 2 ^ k)
      · rw [if_pos hy, decide_eq_false (by omega), magM_no]
        exact magR_eq (a := 0) (b := k) (by omega) (Nat.two_pow_pos _) (by rw [Nat.pow_succ]; grind) (by omega)
      · rw [if_neg hy, decide_eq_true hy, magM_yes]
        exact magR_eq (a := 0) (b := k + 1) (by omega) (Nat.two_pow_pos _) (by grind) (by omega)
    rw [hm]
    obtain ⟨t, ht⟩ : ∃ t, R = r * 2 ^ k + t := ⟨R - r * 2 ^ k, by omega⟩
    have ht2 : t < 2 ^ k := by rw [Nat.add_mul, Nat.one_mul] at c2; omega
    have hs : (if R * R = N * (2 ^ k * 2 ^ k) then 0 else 1) ≤ 1 := by split <;> omega
    have ht3 : R * R = N * (2 ^ k * 2 ^ k) → 0 < t := by
      intro hy
      rcases Nat.eq_zero_or_pos t with h | h
      · exfalso
        subst h
        rw [ht, Nat.add_zero] at hy
        have : r * r * (2 ^ k * 2 ^ k) = N * (2 ^ k * 2 ^ k) := by rw [← hy]; grind
        exact hx (Nat.eq_of_mul_eq_mul_right (Nat.mul_pos hp hp) this)
      · exact h
    have hs2 : 0 < t ∨ (if R * R = N * (2 ^ k * 2 ^ k) then 0 else 1) = 1 := by
      by_cases hy : R * R = N * (2 ^ k * 2 ^ k)
      · exact .inl (ht3 hy)
      · exact .inr (by rw [if_neg hy])
    generalize (if R * R = N * (2 ^ k * 2 ^ k) then 0 else 1) = s at *
    have eP : 2 * R + s = (2 * t + s) + r * 2 ^ (k + 1) := by rw [ht, Nat.pow_succ]; grind
    have eQ : 2 ^ (k + 1) = 2 * 2 ^ k := by rw [Nat.pow_succ]; omega
    have d1 : (2 * R + s) / 2 ^ (k + 1) = r := by rw [eP, Nat.add_mul_div_right _ _ (Nat.two_pow_pos _), Nat.div_eq_of_lt (by omega)]; omega
    have d2 : (2 * R + s) % 2 ^ (k + 1) ≠ 0 := by rw [eP, Nat.add_mul_mod_self_right, Nat.mod_eq_of_lt (by omega)]; omega
    have := magR_sticky (p := 2 * R + s) (q := 2 ^ (k + 1)) e (Nat.two_pow_pos _) d2 (by rw [d1]; exact hb)
    rw [this, d1]
/-- how many zeros the document appends -/
def upz (b : Nat) : Nat := if xpo b % 2 = 0 then 160 else 161
def fsqM (b : Nat) : Nat := rtM (sig b * 2 ^ upz b) ((xpo b - upz b) / 2)
/-- the program's: a word of 63 bits or more, its exponent even -/
def rtw (b : Nat) : Nat := if fxp b % 2 = 0 then fsg b else fsg b / 2
def rtx (b : Nat) : Int := if fxp b % 2 = 0 then fxp b else fxp b + 1
theorem rtw_ge {b : Nat} (pb : 0 < sig b) : 4611686018427387904 ≤ rtw b ∧ rtw b < 18446744073709551616 := by
  have h1 := fsg_ge pb
  have h2 := fsg_lt b
  unfold rtw
  split <;> omega
theorem rt_blen {m r : Nat} (h1 : 4611686018427387904 ≤ m) (h3 : m * 281474976710656 < (r + 1) * (r + 1)) : 55 ≤ blen r := by
  refine blen_ge (k := 54) ?_
  rcases Nat.lt_or_ge r (2 ^ 54) with h | h
  · exfalso
    have : (r + 1) * (r + 1) ≤ 2 ^ 54 * 2 ^ 54 := Nat.mul_le_mul h h
    omega
  · exact h
theorem root_round {b : Nat} (pb : 0 < sig b) : rtM (rtw b * 281474976710656) (rtx b / 2 - 24) = fsqM b := by
  obtain ⟨q1, q2⟩ := rtw_ge pb
  have hb : 54 ≤ blen (rt (rtw b * 281474976710656)) := by
    have := rt_blen q1 (rt_spec (rtw b * 281474976710656)).2
    omega
  have hbl := sig_blen b
  have hb1 := blen_pos pb
  unfold fsqM
  obtain ⟨o, ho, eo1, eo2⟩ : ∃ o : Nat, o ≤ 1 ∧ rtw b = sig b * 2 ^ (64 - blen (sig b) - o) ∧ rtx b = xpo b - ((64 - blen (sig b) : Nat) : Int) + o ∧ rtx b % 2 = 0 := by
    by_cases h : fxp b % 2 = 0
    · refine ⟨0, by omega, ?_, ?_, ?_⟩
      · unfold rtw; rw [if_pos h]; rfl
      · unfold rtx; rw [if_pos h]; unfold fxp; omega
      · unfold rtx; rw [if_pos h]; exact h
    · refine ⟨1, by omega, ?_, ?_, ?_⟩
      · unfold rtw; rw [if_neg h, (fsg_half b).2]; congr 2; omega
      · unfold rtx; rw [if_neg h]; unfold fxp; omega
      · unfold rtx; rw [if_neg h]; omega
  obtain ⟨u, hu, hu2⟩ : ∃ u, upz b = u ∧ (xpo b - (u : Int)) % 2 = 0 ∧ (u = 160 ∨ u = 161) := by
    unfold upz
    split
    · exact ⟨160, rfl, by omega, .inl rfl⟩
    · exact ⟨161, rfl, by omega, .inr rfl⟩
  rw [hu]
  obtain ⟨k, hk⟩ : ∃ k : Nat, u = (64 - blen (sig b) - o) + 48 + 2 * k := ⟨(u - ((64 - blen (sig b) - o) + 48)) / 2, by omega⟩
  have e1 : sig b * 2 ^ u = rtw b * 281474976710656 * 2 ^ (2 * k) := by
    rw [eo1, hk, Nat.pow_add, Nat.pow_add, show (2 : Nat) ^ 48 = 281474976710656 by decide]
    grind
  rw [e1, ← rtM_scale _ k _ hb]
  congr 1
  omega
/-! ### the whole -/
def fmul (a b : Nat) : Nat :=
  if kd a = 4 ∨ kd b = 4 ∨ (kd a = 3 ∧ kd b = 0) ∨ (kd a = 0 ∧ kd b = 3) then NAN else if kd a = 3 ∨ kd b = 3 then sg (ng a != ng b) INF else sg (ng a != ng b) (magR (sig a * sig b) 1 (xpo a + xpo b))
def fdiv (a b : Nat) : Nat :=
  if kd a = 4 ∨ kd b = 4 ∨ (kd a = 3 ∧ kd b = 3) ∨ (kd a = 0 ∧ kd b = 0) then NAN else if kd a = 3 ∨ kd b = 0 then sg (ng a != ng b) INF else if kd a = 0 ∨ kd b = 3 then sg (ng a != ng b) 0 else sg (ng a != ng b) (magR (sig a) (sig b) (xpo a - xpo b))
def fsqrt (b : Nat) : Nat :=
  if kd b = 0 then b else if kd b = 4 ∨ ng b = true then NAN else if kd b = 3 then b else fsqM b

end Go.Proofs.Ytidjacgifdpcmaa
