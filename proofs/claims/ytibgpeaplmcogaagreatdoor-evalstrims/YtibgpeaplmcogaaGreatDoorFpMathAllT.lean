/-
  What fprod.full, mark and root return. Conditions: the words are below 2^64; full: the double is finite.
-/
import Derived.Test.YtibgpeaplmcogaaGreatDoorFbRunAllT
import Derived.Test.YtibgpeaplmcogaaGreatDoorProdRowAllT
import Derived.Below
import Derived.Test.YtibgpeaplmcogaaGreatDoorNatShlAllT
import Derived.Test.YtibgpeaplmcogaaGreatDoorLnAAllT
namespace Go.Proofs.YtibgpeaplmcogaaGreatDoor
set_option maxRecDepth 100000
open Go.RowKit
set_option linter.unusedVariables false
set_option linter.unusedSimpArgs false

/-- a significand whose highest bit is that of the word, and its exponent -/
def fsg (b : Nat) : Nat := sig b * 2 ^ (64 - blen (sig b))
def fxp (b : Nat) : Int := xpo b - ((64 - blen (sig b) : Nat) : Int)
theorem sig_blen (b : Nat) : blen (sig b) ≤ 53 := blen_le (by have := sig_lt b; omega)
theorem fsg_lt (b : Nat) : fsg b < 18446744073709551616 := by
  have h1 := blen_lt (sig b)
  have h2 := sig_blen b
  unfold fsg
  have h3 : sig b * 2 ^ (64 - blen (sig b)) < 2 ^ blen (sig b) * 2 ^ (64 - blen (sig b)) := Nat.mul_lt_mul_of_pos_right h1 (Nat.two_pow_pos _)
  rw [← Nat.pow_add, show blen (sig b) + (64 - blen (sig b)) = 64 by omega] at h3
  exact h3
theorem fsg_ge {b : Nat} (h : 0 < sig b) : 9223372036854775808 ≤ fsg b := by
  have h1 := blen_self h
  have h0 := blen_pos h
  have h2 := sig_blen b
  unfold fsg
  have h3 : 2 ^ (blen (sig b) - 1) * 2 ^ (64 - blen (sig b)) ≤ sig b * 2 ^ (64 - blen (sig b)) := Nat.mul_le_mul_right _ h1
  rw [← Nat.pow_add, show blen (sig b) - 1 + (64 - blen (sig b)) = 63 by omega] at h3
  exact h3
theorem fsg_half (b : Nat) : fsg b % 2 = 0 ∧ fsg b / 2 = sig b * 2 ^ (63 - blen (sig b)) := by
  have h2 := sig_blen b
  have e : fsg b = sig b * 2 ^ (63 - blen (sig b)) * 2 := by
    unfold fsg
    rw [show 64 - blen (sig b) = 63 - blen (sig b) + 1 by omega, Nat.pow_succ, Nat.mul_assoc]
  rw [e]
  omega
/-- a finite double that is not 0 has a significand -/
theorem sig_pos {b : Nat} (h : kd b = 1 ∨ kd b = 2) : 0 < sig b := by
  unfold kd at h
  unfold sig
  split at h
  · split at h <;> omega
  · split at h
    · rename_i h1
      rw [if_pos h1]
      split at h
      · omega
      · omega
    · rename_i h1
      rw [if_neg h1]; omega
/-! ### products -/
theorem mul_round (a b : Nat) : magR (mkd (fsg a * fsg b / 18446744073709551616) (decide (fsg a * fsg b % 18446744073709551616 ≠ 0))) 1 (fxp a + fxp b + 64) = magR (sig a * sig b) 1 (xpo a + xpo b) := by
  rw [mkd_round _ (by omega)]
  · have h1 := sig_blen a
    have h2 := sig_blen b
    refine magR_eq (a := 64) (b := (64 - blen (sig a)) + (64 - blen (sig b))) (by omega) (by omega) ?_ (by unfold fxp; omega)
    unfold fsg
    rw [show (18446744073709551616 : Nat) = 2 ^ 64 by decide, Nat.pow_add]
    grind
  · intro hr
    have p1 : 0 < sig a := by
      rcases Nat.eq_zero_or_pos (sig a) with h | h
      · exfalso; apply hr; unfold fsg; rw [h, Nat.zero_mul, Nat.zero_mul]
      · exact h
    have p2 : 0 < sig b := by
      rcases Nat.eq_zero_or_pos (sig b) with h | h
      · exfalso; apply hr; unfold fsg; rw [h, Nat.zero_mul, Nat.mul_zero]
      · exact h
    have h3 := Nat.mul_le_mul (fsg_ge p1) (fsg_ge p2)
    refine blen_ge (k := 54) ?_
    rw [Nat.le_div_iff_mul_le (by omega)]
    generalize fsg a * fsg b = z at *
    omega
/-! ### quotients -/
theorem div_round {a b : Nat} (pa : 0 < sig a) (pb : 0 < sig b) : magR (mkd (fsg a / 2 * 18446744073709551616 / fsg b) (decide (fsg a / 2 * 18446744073709551616 % fsg b ≠ 0))) 1 (fxp a - fxp b + 1 - 64) = magR (sig a) (sig b) (xpo a - xpo b) := by
  have g1 := fsg_ge pa
  have g2 := fsg_ge pb
  have l2 := fsg_lt b
  rw [mkd_round _ (by omega)]
  · have h1 := sig_blen a
    have h2 := sig_blen b
    refine magR_eq (a := 64 - blen (sig b)) (b := (64 - blen (sig a)) + 63) (by omega) pb ?_ (by unfold fxp; omega)
    rw [(fsg_half a).2]
    unfold fsg
    obtain ⟨n, hn⟩ : ∃ n, 64 - blen (sig a) = n + 1 := ⟨63 - blen (sig a), by omega⟩
    rw [hn, show 63 - blen (sig a) = n by omega, show (18446744073709551616 : Nat) = 2 ^ 64 by decide, show n + 1 + 63 = n + 64 by omega, Nat.pow_add 2 n 64]
    grind
  · intro hr
    refine blen_ge (k := 54) ?_
    rw [Nat.le_div_iff_mul_le (by omega)]
    omega
/-! ### roots -/
/-- the double nearest to the root of N, times 2^e -/
def rtM (N : Nat) (e : Int) : Nat := magM (rt N) e (decide (rt N * rt N ≠ N))
theorem rtM_of {N r : Nat} (e : Int) (h1 : r * r ≤ N) (h2 : N < (r + 1) * (r + 1)) : rtM N e = magM r e (decide (r * r ≠ N)) := by
  unfold rtM; rw [rt_unique h1 h2]
theorem magM_mkd {r : Nat} (e : Int) (more : Bool) (hb : 55 ≤ blen r) : magR (mkd r more) 1 e = magM r e more := by
  cases more
  · rw [mkd_no, magM_no]
  · rw [mkd_yes, magM_yes, ← magR_two]
    have h1 : (2 * r + 1) / 2 = r := by omega
    have := mark_sticky (P := 2 * r + 1) (Q := 2) e (by omega) (by omega) (by rw [h1]; exact hb)
    rw [h1] at this
    exact this
theorem rt_scale_alg {N k r R : Nat} (h1 : r * r ≤ N) (h2 : N < (r + 1) * (r + 1)) (g1 : R * R ≤ N * (2 ^ k * 2 ^ k)) (g2 : N * (2 ^ k * 2 ^ k) < (R + 1) * (R + 1)) : r * 2 ^ k ≤ R ∧ R < (r + 1) * 2 ^ k := by
  have hp := Nat.two_pow_pos k
  generalize 2 ^ k = K at *
  constructor
  · rcases Nat.lt_or_ge R (r * K) with h | h
    · exfalso
      have a1 : (R + 1) * (R + 1) ≤ r * K * (r * K) := Nat.mul_le_mul h h
      have a2 : r * K * (r * K) = r * r * (K * K) := by grind
      have a3 : r * r * (K * K) ≤ N * (K * K) := Nat.mul_le_mul_right _ h1
      omega
    · exact h
  · rcases Nat.lt_or_ge R ((r + 1) * K) with h | h
    · exact h
    · exfalso
      have a1 : (r + 1) * K * ((r + 1) * K) ≤ R * R := Nat.mul_le_mul h h
      have a2 : (r + 1) * K * ((r + 1) * K) = (r + 1) * (r + 1) * (K * K) := by grind
      have a3 : N * (K * K) < (r + 1) * (r + 1) * (K * K) := Nat.mul_lt_mul_of_pos_right h2 (Nat.mul_pos hp hp)
      omega
theorem rtM_scale (N k : Nat) (e : Int) (hb : 54 ≤ blen (rt N)) : rtM (N * 2 ^ (2 * k)) (e - k) = rtM N e := by
  have hp := Nat.two_pow_pos k
  obtain ⟨h1, h2⟩ := rt_spec N
  obtain ⟨g1, g2⟩ := rt_spec (N * 2 ^ (2 * k))
  unfold rtM
  have e2 : N * 2 ^ (2 * k) = N * (2 ^ k * 2 ^ k) := by rw [← Nat.pow_add]; congr 2; omega
  rw [e2] at g1 g2 ⊢
  generalize rt (N * (2 ^ k * 2 ^ k)) = R at *
  generalize rt N = r at *
  obtain ⟨c1, c2⟩ := rt_scale_alg h1 h2 g1 g2
  by_cases hx : r * r = N
  · -- the root is exact
    have hR : R = r * 2 ^ k := by
      rcases Nat.eq_or_lt_of_le c1 with h | h
      · exact h.symm
      · exfalso
        have a1 : (r * 2 ^ k + 1) * (r * 2 ^ k + 1) ≤ R * R := Nat.mul_le_mul h h
        have a2 : r * 2 ^ k * (r * 2 ^ k) = N * (2 ^ k * 2 ^ k) := by rw [← hx]; grind
        have := sq_succ (r * 2 ^ k)
        omega
    have hRR : R * R = N * (2 ^ k * 2 ^ k) := by rw [hR, ← hx]; grind
    rw [decide_eq_false (by omega), decide_eq_false (by omega), magM_no, magM_no, hR, magR_shift _ _ _ (by omega)]
    congr 1
    omega
  · -- something is left
    rw [decide_eq_true (show r * r ≠ N from hx), magM_yes, ← magR_two]
    have hm : magM R (e - k) (decide (R * R ≠ N * (2 ^ k * 2 ^ k))) = magR (2 * R + (if R * R = N * (2 ^ k * 2 ^ k) then 0 else 1)) (2 ^ (k + 1)) e := by
      by_cases hy : R * R = N * (2 ^ k * 2 ^ k)
      · rw [if_pos hy, decide_eq_false (by omega), magM_no]
        exact magR_eq (a := 0) (b := k) (by omega) (Nat.two_pow_pos _) (by rw [Nat.pow_succ]; grind) (by omega)
      · rw [if_neg hy, decide_eq_true hy, magM_yes]
        exact magR_eq (a := 0) (b := k + 1) (by omega) (Nat.two_pow_pos _) (by grind) (by omega)
    rw [hm]
    obtain ⟨t, ht⟩ : ∃ t, R = r * 2 ^ k + t := ⟨R - r * 2 ^ k, by omega⟩
    have ht2 : t < 2 ^ k := by rw [Nat.add_mul, Nat.one_mul] at c2; omega
    have hs : (if R * R = N * (2 ^ k * 2 ^ k) then 0 else 1) ≤ 1 := by split <;> omega
    have ht3 : R * R = N * (2 ^ k * 2 ^ k) → 0 < t := by
      intro hy
      rcases Nat.eq_zero_or_pos t with h | h
      · exfalso
        subst h
        rw [ht, Nat.add_zero] at hy
        have : r * r * (2 ^ k * 2 ^ k) = N * (2 ^ k * 2 ^ k) := by rw [← hy]; grind
        exact hx (Nat.eq_of_mul_eq_mul_right (Nat.mul_pos hp hp) this)
      · exact h
    have hs2 : 0 < t ∨ (if R * R = N * (2 ^ k * 2 ^ k) then 0 else 1) = 1 := by
      by_cases hy : R * R = N * (2 ^ k * 2 ^ k)
      · exact .inl (ht3 hy)
      · exact .inr (by rw [if_neg hy])
    generalize (if R * R = N * (2 ^ k * 2 ^ k) then 0 else 1) = s at *
    have eP : 2 * R + s = (2 * t + s) + r * 2 ^ (k + 1) := by rw [ht, Nat.pow_succ]; grind
    have eQ : 2 ^ (k + 1) = 2 * 2 ^ k := by rw [Nat.pow_succ]; omega
    have d1 : (2 * R + s) / 2 ^ (k + 1) = r := by rw [eP, Nat.add_mul_div_right _ _ (Nat.two_pow_pos _), Nat.div_eq_of_lt (by omega)]; omega
    have d2 : (2 * R + s) % 2 ^ (k + 1) ≠ 0 := by rw [eP, Nat.add_mul_mod_self_right, Nat.mod_eq_of_lt (by omega)]; omega
    have := magR_sticky (p := 2 * R + s) (q := 2 ^ (k + 1)) e (Nat.two_pow_pos _) d2 (by rw [d1]; exact hb)
    rw [this, d1]
/-- how many zeros the document appends -/
def upz (b : Nat) : Nat := if xpo b % 2 = 0 then 160 else 161
def fsqM (b : Nat) : Nat := rtM (sig b * 2 ^ upz b) ((xpo b - upz b) / 2)
/-- the program's: a word of 63 bits or more, its exponent even -/
def rtw (b : Nat) : Nat := if fxp b % 2 = 0 then fsg b else fsg b / 2
def rtx (b : Nat) : Int := if fxp b % 2 = 0 then fxp b else fxp b + 1
theorem rtw_ge {b : Nat} (pb : 0 < sig b) : 4611686018427387904 ≤ rtw b ∧ rtw b < 18446744073709551616 := by
  have h1 := fsg_ge pb
  have h2 := fsg_lt b
  unfold rtw
  split <;> omega
theorem rt_blen {m r : Nat} (h1 : 4611686018427387904 ≤ m) (h3 : m * 281474976710656 < (r + 1) * (r + 1)) : 55 ≤ blen r := by
  refine blen_ge (k := 54) ?_
  rcases Nat.lt_or_ge r (2 ^ 54) with h | h
  · exfalso
    have : (r + 1) * (r + 1) ≤ 2 ^ 54 * 2 ^ 54 := Nat.mul_le_mul h h
    omega
  · exact h
theorem root_round {b : Nat} (pb : 0 < sig b) : rtM (rtw b * 281474976710656) (rtx b / 2 - 24) = fsqM b := by
  obtain ⟨q1, q2⟩ := rtw_ge pb
  have hb : 54 ≤ blen (rt (rtw b * 281474976710656)) := by
    have := rt_blen q1 (rt_spec (rtw b * 281474976710656)).2
    omega
  have hbl := sig_blen b
  have hb1 := blen_pos pb
  unfold fsqM
  obtain ⟨o, ho, eo1, eo2⟩ : ∃ o : Nat, o ≤ 1 ∧ rtw b = sig b * 2 ^ (64 - blen (sig b) - o) ∧ rtx b = xpo b - ((64 - blen (sig b) : Nat) : Int) + o ∧ rtx b % 2 = 0 := by
    by_cases h : fxp b % 2 = 0
    · refine ⟨0, by omega, ?_, ?_, ?_⟩
      · unfold rtw; rw [if_pos h]; rfl
      · unfold rtx; rw [if_pos h]; unfold fxp; omega
      · unfold rtx; rw [if_pos h]; exact h
    · refine ⟨1, by omega, ?_, ?_, ?_⟩
      · unfold rtw; rw [if_neg h, (fsg_half b).2]; congr 2; omega
      · unfold rtx; rw [if_neg h]; unfold fxp; omega
      · unfold rtx; rw [if_neg h]; omega
  obtain ⟨u, hu, hu2⟩ : ∃ u, upz b = u ∧ (xpo b - (u : Int)) % 2 = 0 ∧ (u = 160 ∨ u = 161) := by
    unfold upz
    split
    · exact ⟨160, rfl, by omega, .inl rfl⟩
    · exact ⟨161, rfl, by omega, .inr rfl⟩
  rw [hu]
  obtain ⟨k, hk⟩ : ∃ k : Nat, u = (64 - blen (sig b) - o) + 48 + 2 * k := ⟨(u - ((64 - blen (sig b) - o) + 48)) / 2, by omega⟩
  have e1 : sig b * 2 ^ u = rtw b * 281474976710656 * 2 ^ (2 * k) := by
    rw [eo1, hk, Nat.pow_add, Nat.pow_add, show (2 : Nat) ^ 48 = 281474976710656 by decide]
    grind
  rw [e1, ← rtM_scale _ k _ hb]
  congr 1
  omega
/-! ### the whole -/
def fmul (a b : Nat) : Nat :=
  if kd a = 4 ∨ kd b = 4 ∨ (kd a = 3 ∧ kd b = 0) ∨ (kd a = 0 ∧ kd b = 3) then NAN else if kd a = 3 ∨ kd b = 3 then sg (ng a != ng b) INF else sg (ng a != ng b) (magR (sig a * sig b) 1 (xpo a + xpo b))
def fdiv (a b : Nat) : Nat :=
  if kd a = 4 ∨ kd b = 4 ∨ (kd a = 3 ∧ kd b = 3) ∨ (kd a = 0 ∧ kd b = 0) then NAN else if kd a = 3 ∨ kd b = 0 then sg (ng a != ng b) INF else if kd a = 0 ∨ kd b = 3 then sg (ng a != ng b) 0 else sg (ng a != ng b) (magR (sig a) (sig b) (xpo a - xpo b))
def fsqrt (b : Nat) : Nat :=
  if kd b = 0 then b else if kd b = 4 ∨ ng b = true then NAN else if kd b = 3 then b else fsqM b

end Go.Proofs.YtibgpeaplmcogaaGreatDoor

namespace Go.Proofs.YtibgpeaplmcogaaGreatDoor
set_option maxRecDepth 100000
open Go.RowKit
set_option linter.unusedVariables false
set_option linter.unusedSimpArgs false

theorem fb_partsY {b : Nat} (hb : b < 18446744073709551616) (h : fld b < 2047) (w : World) :
    Calls Tryz.prog 214 #[.int .u64 b] w fun e w' => e = .returned (.tuple #[.bool (ng b), .int .u64 (sig b), .int .i64 (xpo b), .bool true]) ∧ w = w' := by
  have := fb_parts hb w
  rw [if_pos h] at this
  exact this
theorem fb_partsN {b : Nat} (hb : b < 18446744073709551616) (h : ¬ fld b < 2047) (w : World) :
    Calls Tryz.prog 214 #[.int .u64 b] w fun e w' => e = .returned (.tuple #[.bool false, .int .u64 0, .int .i64 0, .bool false]) ∧ w = w' := by
  have := fb_parts hb w
  rw [if_neg h] at this
  exact this

end Go.Proofs.YtibgpeaplmcogaaGreatDoor

namespace Go.Proofs.YtibgpeaplmcogaaGreatDoor
set_option maxRecDepth 100000
open Go.RowKit
set_option linter.unusedVariables false
set_option linter.unusedSimpArgs false

theorem or_one {q : Nat} (h : q < 18446744073709551616) : bits .or .u64 (q : Int) 1 = ((2 * (q / 2) + 1 : Nat) : Int) := by
  have h1 := u64_or_nat q 1 h (by omega)
  have e : ((1 : Nat) : Int) = 1 := rfl
  rw [e] at h1
  rw [h1]
  suffices h9 : q ||| 1 = 2 * (q / 2) + 1 by rw [h9]
  apply Nat.eq_of_testBit_eq
  intro i
  rw [Nat.testBit_or]
  cases i with
  | zero => simp [Nat.testBit_zero]
  | succ i =>
    rw [Nat.testBit_succ, Nat.testBit_succ, Nat.testBit_succ, show (2 * (q / 2) + 1) / 2 = q / 2 by omega, show 1 / 2 = 0 by omega]
    simp
theorem word1_small {q : Nat} (h : q < W) : word1 (words q) = (q : Int) := by
  rcases Nat.eq_zero_or_pos q with rfl | h0
  · rfl
  · rw [words_small q h0 h]
    unfold word1
    have h2 : sz [(q : Int)] = 1 := by
      simp [sz]
      omega
    rw [h2, if_neg (by omega)]
    simp
theorem of_short_lt {V skip : Nat} (hs : skip = blen V - 64) : V / 2 ^ skip < W := by
  have h1 := blen_div_pow V skip
  have h2 := blen_lt (V / 2 ^ skip)
  have h3 : 2 ^ blen (V / 2 ^ skip) ≤ 2 ^ 64 := Nat.pow_le_pow_right (by omega) (by omega)
  rw [W_pow]
  omega

set_option maxRecDepth 100000 in
set_option maxHeartbeats 4000000 in
theorem fr_of (s : Bool) {w : World} {A : Option Addr} {n c : Nat} {xs : List Int} (h : Sl w A n c xs) (hn : n ≤ 190) {e : Int} (he : -9223372036854775808 ≤ e) (he2 : e ≤ 9223372036854775807) (more : Bool) :
    Calls Tryz.prog 154 #[.bool s, .slice A n c, .int .i64 e, .bool more] w (RetW (sg s (magM (val xs) e more)) w) := by
  have hv : val xs < W ^ n := val_lt_pow h.us (by have := h.len; omega)
  have HB := nat_bits h (by omega)
  have hL1 : blen (val xs) ≤ 64 * n := blen_pow_W hv
  have k1 := of_clamp (m := val xs) (n := blen (val xs)) (e := e) (by omega)
  have k2 := of_clamp (m := 2 * val xs + 1) (n := blen (val xs)) (e := e) (blen_le (by rw [Nat.pow_succ]; have := blen_lt (val xs); omega))
  generalize hL : blen (val xs) = L at *
  obtain ⟨d, hd⟩ : ∃ d : Int, min (max e (-2000 - (L : Int))) 2000 = d := ⟨_, rfl⟩
  rw [hd] at k1 k2
  have hd1 : -20000 ≤ d ∧ d ≤ 2000 := by omega
  have HB := Lib.hid HB
  cases more
  · rw [magM_no]
    obtain ⟨V, hVV⟩ : ∃ V, val xs = V := ⟨_, rfl⟩
    have hR := k1.1
    rw [hVV] at hR ⊢
    have hM : blen V = L := by rw [← hVV]; exact hL
    obtain ⟨skip, hskip⟩ : ∃ k : Nat, k = L - 64 := ⟨_, rfl⟩
    have hsk : skip ≤ 20000 := by omega
    have HSK := Lib.hid hskip
    clear hskip
    generalize magR V 1 e = R at *
    clear k1 k2 hL
    go_enter Tryz.func154, Tryz.ntmps154
    go_upto_region 1 with (fail)
    go_cut [2] (fun s2 wx => s2 = .int .i64 d ∧ w = wx)
    case first =>
      by_cases h1 : e < -2000 - (L : Int)
      · go_wp2_with fail
        refine HB.out.mono ?_
        rintro _ w' ⟨rfl, rfl⟩
        go_wp2_with fail
        go_meet
        exact ⟨vint (by omega), rfl⟩
      · by_cases h2 : 2000 < e
        · have h3 : decide (2000 < e) = true := decide_eq_true h2
          go_wp2_with fail
          refine HB.out.mono ?_
          rintro _ w' ⟨rfl, rfl⟩
          go_wp2_with fail
          go_meet
          exact ⟨vint (by omega), rfl⟩
        · go_wp2_with fail
          refine HB.out.mono ?_
          rintro _ w' ⟨rfl, rfl⟩
          go_wp2_with fail
          go_meet
          exact ⟨vint (by omega), rfl⟩
    case rest =>
    obtain ⟨rfl, rfl⟩ := hcut
    clear hd HB
    go_upto_region 5 with (fail)
    go_cut [9] (fun s9 wx => s9 = .int .i64 skip ∧ w = wx)
    case first =>
      have HB := Lib.hid (nat_bits h (by omega))
      rw [hVV, hM] at HB
      by_cases h1 : L ≤ 64
      · go_wp2_with fail
        refine HB.out.mono ?_
        rintro _ w' ⟨rfl, rfl⟩
        go_wp2_with fail
        all_goals go_meet
        all_goals exact ⟨vint (by have := HSK.out; omega), rfl⟩
      · go_wp2_with fail
        refine HB.out.mono ?_
        rintro _ w' ⟨rfl, rfl⟩
        go_wp2_with fail
        all_goals go_meet
        all_goals exact ⟨vint (by have := HSK.out; omega), rfl⟩
    case rest =>
    obtain ⟨rfl, rfl⟩ := hcut
    have HSh := nat_shr h (by omega) (skip : Int) (by omega)
    rw [hVV, Int.toNat_natCast] at HSh
    have HE := nat_even h (by omega)
    rw [hVV] at HE
    have hq := of_short_lt (V := V) (skip := skip) (by rw [hM]; exact HSK.out)
    have y1 := of_short (m := V) (skip := skip) (d) (by rw [hM]; exact HSK.out)
    have y2 := of_long (m := V) (skip := skip) (d) (by rw [hM]; exact HSK.out)
    rw [hR] at y1 y2
    have HSh := Lib.hid HSh
    generalize V / 2 ^ skip = q at *
    obtain ⟨z, hz⟩ : ∃ z, tz V = z := ⟨_, rfl⟩
    rw [hz] at y1 y2 HE
    clear HE
    have hq2 : q < 18446744073709551616 := by unfold W at hq; omega
    have ho := or_one hq2
    go_wp2_with fail
    with_reducible refine HSh.out.mono ?_
    rintro _ w5 ⟨A5, n5, c5, rfl, t5, b5⟩
    have l5 : n5 ≤ 1 := t5.small (by rw [Nat.pow_one]; exact hq)
    have HW := nat_word t5 (by omega)
    rw [word1_small hq] at HW
    have HW := Lib.hid HW
    clear HSh
    go_wp2_with fail
    refine HW.out.mono ?_
    rintro _ w' ⟨rfl, rfl⟩
    have HE := nat_even (h.below b5) (by omega)
    rw [hVV, hz] at HE
    have HE := Lib.hid HE
    by_cases hzs : z < skip
    · have y3 := y2 hzs
      have HF := fr_word s (m := 2 * (q / 2) + 1) (by omega) (e := d + skip) (by omega) (by omega) w5
      rw [y3] at HF
      have HF := Lib.hid HF
      clear y1 y2 y3
      generalize 2 * (q / 2) + 1 = q2 at *
      go_wp2_with fail
      refine HE.out.mono ?_
      rintro _ w' ⟨rfl, rfl⟩
      go_wp2_with fail
      with_reducible refine HF.out.mono ?_
      rintro _ w6 ⟨rfl, b6⟩
      go_wp2_with fail
      go_ret
      exact ⟨rfl, bbw (Below.refl _ _) (bbw b5 b6)⟩
    · have y3 := y1 hzs
      have HF := fr_word s (m := q) (by omega) (e := d + skip) (by omega) (by omega) w5
      rw [y3] at HF
      have HF := Lib.hid HF
      clear y1 y2 y3 ho
      go_wp2_with fail
      refine HE.out.mono ?_
      rintro _ w' ⟨rfl, rfl⟩
      go_wp2_with fail
      with_reducible refine HF.out.mono ?_
      rintro _ w6 ⟨rfl, b6⟩
      go_wp2_with fail
      go_ret
      exact ⟨rfl, bbw (Below.refl _ _) (bbw b5 b6)⟩
  · rw [magM_yes]
    obtain ⟨V, hVv⟩ : ∃ V, 2 * val xs + 1 = V := ⟨_, rfl⟩
    have hR := k2.2
    rw [hVv] at hR ⊢
    have hv2 : V < W ^ (n + 1) := by rw [← hVv]; exact more_lt hv
    have hM2 : blen V ≤ 64 * (n + 1) := blen_pow_W hv2
    obtain ⟨M, hM⟩ : ∃ M, blen V = M := ⟨_, rfl⟩
    rw [hM] at hM2
    obtain ⟨skip, hskip⟩ : ∃ k : Nat, k = M - 64 := ⟨_, rfl⟩
    have hsk : skip ≤ 20000 := by omega
    have HSK := Lib.hid hskip
    clear hskip
    generalize magR V 1 (e - 1) = R at *
    have hVV := val_words V
    have HS1 := nat_shl h (by omega) 1
    rw [show clampS 1 = 1 by decide, Nat.pow_one] at HS1
    have HS1 := Lib.hid HS1
    have HV2 := Lib.hid hv2
    have HVv := Lib.hid hVv
    have Hv := Lib.hid hv
    clear k1 k2 hL hv2 hVv hv
    go_enter Tryz.func154, Tryz.ntmps154
    go_upto_region 1 with (fail)
    go_cut [2] (fun s2 wx => s2 = .int .i64 d ∧ w = wx)
    case first =>
      by_cases h1 : e < -2000 - (L : Int)
      · go_wp2_with fail
        refine HB.out.mono ?_
        rintro _ w' ⟨rfl, rfl⟩
        go_wp2_with fail
        go_meet
        exact ⟨vint (by omega), rfl⟩
      · by_cases h2 : 2000 < e
        · have h3 : decide (2000 < e) = true := decide_eq_true h2
          go_wp2_with fail
          refine HB.out.mono ?_
          rintro _ w' ⟨rfl, rfl⟩
          go_wp2_with fail
          go_meet
          exact ⟨vint (by omega), rfl⟩
        · go_wp2_with fail
          refine HB.out.mono ?_
          rintro _ w' ⟨rfl, rfl⟩
          go_wp2_with fail
          go_meet
          exact ⟨vint (by omega), rfl⟩
    case rest =>
    obtain ⟨rfl, rfl⟩ := hcut
    clear hd HB
    go_wp2_with fail
    with_reducible refine HS1.out.mono ?_
    rintro _ w1 ⟨A1, n1, c1, rfl, t1, b1⟩
    have l1 : n1 ≤ n + 1 := t1.small (mul_lt_pow (m := 1) (l := 1) Hv.out (by omega))
    have HO1 := nat_of 1 U_1 w1
    rw [show (1 : Int).toNat = 1 by decide] at HO1
    have HO1 := Lib.hid HO1
    clear HS1
    go_wp2_with fail
    refine HO1.out.mono ?_
    rintro _ w2 ⟨A2, n2, c2, rfl, t2, b2⟩
    have l2 : n2 ≤ 1 := t2.small (by rw [Nat.pow_one]; unfold W; omega)
    have HA := nat_add (t1.below b2) t2 (by omega) (by omega)
    rw [val_words, val_words, Nat.mul_comm, HVv.out] at HA
    have HA := Lib.hid HA
    clear HO1
    go_wp2_with fail
    refine HA.out.mono ?_
    rintro _ w3 ⟨A3, n3, c3, rfl, t3, b3⟩
    have l3 : n3 ≤ n + 1 := t3.small HV2.out
    have x3 := bbw b1 (bbw b2 b3)
    clear HA t1 t2 b1 b2 b3
    go_upto_region 5 with (fail)
    go_cut [9] (fun s9 wx => s9 = .int .i64 skip ∧ w3 = wx)
    case first =>
      have HB := Lib.hid (nat_bits t3 (by omega))
      rw [hVV, hM] at HB
      by_cases h1 : M ≤ 64
      · go_wp2_with fail
        refine HB.out.mono ?_
        rintro _ w' ⟨rfl, rfl⟩
        go_wp2_with fail
        all_goals go_meet
        all_goals exact ⟨vint (by have := HSK.out; omega), rfl⟩
      · go_wp2_with fail
        refine HB.out.mono ?_
        rintro _ w' ⟨rfl, rfl⟩
        go_wp2_with fail
        all_goals go_meet
        all_goals exact ⟨vint (by have := HSK.out; omega), rfl⟩
    case rest =>
    obtain ⟨rfl, rfl⟩ := hcut
    have HSh := nat_shr t3 (by omega) (skip : Int) (by omega)
    rw [hVV, Int.toNat_natCast] at HSh
    have HE := nat_even t3 (by omega)
    rw [hVV] at HE
    have hq := of_short_lt (V := V) (skip := skip) (by rw [hM]; exact HSK.out)
    have y1 := of_short (m := V) (skip := skip) (d - 1) (by rw [hM]; exact HSK.out)
    have y2 := of_long (m := V) (skip := skip) (d - 1) (by rw [hM]; exact HSK.out)
    rw [hR] at y1 y2
    have HSh := Lib.hid HSh
    generalize V / 2 ^ skip = q at *
    obtain ⟨z, hz⟩ : ∃ z, tz V = z := ⟨_, rfl⟩
    rw [hz] at y1 y2 HE
    clear HE
    have hq2 : q < 18446744073709551616 := by unfold W at hq; omega
    have ho := or_one hq2
    go_wp2_with fail
    with_reducible refine HSh.out.mono ?_
    rintro _ w5 ⟨A5, n5, c5, rfl, t5, b5⟩
    have l5 : n5 ≤ 1 := t5.small (by rw [Nat.pow_one]; exact hq)
    have HW := nat_word t5 (by omega)
    rw [word1_small hq] at HW
    have HW := Lib.hid HW
    clear HSh
    go_wp2_with fail
    refine HW.out.mono ?_
    rintro _ w' ⟨rfl, rfl⟩
    have HE := nat_even (t3.below b5) (by omega)
    rw [hVV, hz] at HE
    have HE := Lib.hid HE
    by_cases hzs : z < skip
    · have y3 := y2 hzs
      have HF := fr_word s (m := 2 * (q / 2) + 1) (by omega) (e := d - 1 + skip) (by omega) (by omega) w5
      rw [y3] at HF
      have HF := Lib.hid HF
      clear y1 y2 y3
      generalize 2 * (q / 2) + 1 = q2 at *
      go_wp2_with fail
      refine HE.out.mono ?_
      rintro _ w' ⟨rfl, rfl⟩
      go_wp2_with fail
      with_reducible refine HF.out.mono ?_
      rintro _ w6 ⟨rfl, b6⟩
      go_wp2_with fail
      go_ret
      exact ⟨rfl, bbw (x3) (bbw b5 b6)⟩
    · have y3 := y1 hzs
      have HF := fr_word s (m := q) (by omega) (e := d - 1 + skip) (by omega) (by omega) w5
      rw [y3] at HF
      have HF := Lib.hid HF
      clear y1 y2 y3 ho
      go_wp2_with fail
      refine HE.out.mono ?_
      rintro _ w' ⟨rfl, rfl⟩
      go_wp2_with fail
      with_reducible refine HF.out.mono ?_
      rintro _ w6 ⟨rfl, b6⟩
      go_wp2_with fail
      go_ret
      exact ⟨rfl, bbw (x3) (bbw b5 b6)⟩

end Go.Proofs.YtibgpeaplmcogaaGreatDoor

namespace Go.Proofs.YtibgpeaplmcogaaGreatDoor
set_option maxRecDepth 100000
open Go.RowKit
set_option linter.unusedVariables false
set_option linter.unusedSimpArgs false

set_option maxHeartbeats 1000000 in
theorem fs_cut {m n : Nat} (hm : m < 18446744073709551616) (hn : n ≤ 100000) (w : World) :
    Calls Tryz.prog 215 #[.int .u64 m, .int .i64 n] w fun e w' => e = .returned (.int .u64 (cutv m n)) ∧ w = w' := by
  have hmin : m / 2 ^ min n 64 = m / 2 ^ n ∧ (64 < n → m / 2 ^ n = 0) := by
    rcases Nat.lt_or_ge 64 n with hl | hl
    · have h8 : m < 2 ^ n := Nat.lt_of_lt_of_le (show m < 2 ^ 64 by omega) (Nat.pow_le_pow_right (by omega) (by omega))
      rw [Nat.min_eq_right (by omega), Nat.div_eq_of_lt h8, Nat.div_eq_of_lt (by omega)]
      exact ⟨rfl, fun _ => rfl⟩
    · rw [Nat.min_eq_left hl]
      exact ⟨rfl, fun h => absurd h (by omega)⟩
  have hdiv : (m : Int) / 2 ^ min n 64 = ((m / 2 ^ n : Nat) : Int) := by rw [← hmin.1, Int.natCast_ediv]; congr 1
  have h0 := hmin.2
  clear hmin
  have h1 := Nat.div_add_mod' m (2 ^ n)
  have hc : cutv m n = mkd (m / 2 ^ n) (decide (m % 2 ^ n ≠ 0)) := rfl
  generalize cutv m n = C at *
  generalize m / 2 ^ n = k at *
  have hk : k ≤ m := by
    have : k * 1 ≤ k * 2 ^ n := Nat.mul_le_mul_left _ (Nat.two_pow_pos n)
    omega
  have e1 : IntKind.u64.wrap ((k : Int) * 2 ^ min n 64) = ((k * 2 ^ n : Nat) : Int) := by
    rcases Nat.lt_or_ge 64 n with hl | hl
    · rw [h0 hl]; rw [Nat.zero_mul]; simp [wrapU]
    · rw [Nat.min_eq_left hl]
      have hc : (k : Int) * 2 ^ n = ((k * 2 ^ n : Nat) : Int) := by push_cast; rfl
      rw [hc, wrapU]
      omega
  clear h0
  have e2 := or_one (q := k) (by omega)
  generalize m % 2 ^ n = r at *
  generalize k * 2 ^ n = x at *
  by_cases h : r = 0
  · obtain rfl : x = m := by omega
    have HC := Lib.hid hc
    have HR := Lib.hid h
    clear hc h h1
    go_enter Tryz.func215, Tryz.ntmps215
    go_wp2_with fail
    go_ret
    exact ⟨ret1 (by have h9 := HR.out; rw [HC.out, h9, decide_eq_false (by omega), mkd_no]), rfl⟩
  · have hne : ((x : Int) == m) = false := by simp; omega
    have hne2 : ((x : Int) != m) = true := by simp; omega
    have HC := Lib.hid hc
    have HR := Lib.hid h
    clear hc h h1
    go_enter Tryz.func215, Tryz.ntmps215
    go_wp2_with fail
    go_ret
    exact ⟨ret1 (by rw [HC.out, decide_eq_true HR.out, mkd_yes]; omega), rfl⟩

set_option maxHeartbeats 4000000 in
theorem fs_fin {a b : Nat} (ha : a < 18446744073709551616) (hb : b < 18446744073709551616) (fa : fld a < 2047) (fb : fld b < 2047) (w : World) :
    Calls Tryz.prog 156 #[.int .u64 a, .int .u64 b] w (RetW (fsumF a b) w) := by
  obtain ⟨A, B, hA, hB, fA, fB, hle, hF, hcase⟩ : ∃ A B : Nat, A < 18446744073709551616 ∧ B < 18446744073709551616 ∧ fld A < 2047 ∧ fld B < 2047 ∧ mant B ≤ mant A ∧ fsumF a b = fsumF A B ∧ ((A = a ∧ B = b ∧ ¬ mant a < mant b) ∨ (A = b ∧ B = a ∧ mant a < mant b)) := by
    by_cases h : mant a < mant b
    · exact ⟨b, a, hb, ha, fb, fa, by omega, fsumF_comm a b, .inr ⟨rfl, rfl, h⟩⟩
    · exact ⟨a, b, ha, hb, fa, fb, by omega, rfl, .inl ⟨rfl, rfl, h⟩⟩
  rw [hF]
  clear hF
  have m1 : IntKind.u64.wrap ((a : Int) * 2) = ((2 * mant a : Nat) : Int) := by unfold mant; rw [wrapU]; omega
  have m2 : IntKind.u64.wrap ((b : Int) * 2) = ((2 * mant b : Nat) : Int) := by unfold mant; rw [wrapU]; omega
  have hx := xpo_mono hle
  obtain ⟨n, hn⟩ : ∃ n : Nat, xpo A - xpo B = n := ⟨(xpo A - xpo B).toNat, by omega⟩
  have r1 := xpo_range fA
  have r2 := xpo_range fB
  have s1 := sig_lt A
  have s2 := sig_lt B
  have S := sum_same fB hn
  obtain ⟨D1, D2, D3⟩ := sum_diff fB hn ((vl_mono fA fB).1.2 hle)
  have hF : fsumF A B = if ng A = ng B then sg (ng A) (mag (vl A + vl B) 1) else if vl A = vl B then 0 else if vl B < vl A then sg (ng A) (mag (vl A - vl B) 1) else sg (ng B) (mag (vl B - vl A) 1) := rfl
  have hvle := (vl_mono fA fB).1.2 hle
  have P1 := Lib.hid (fb_partsY hA fA w)
  have P2 := Lib.hid (fb_partsY hB fB w)
  have C0 := fs_cut (m := sig B * 1024) (n := n) (by omega) (by omega) w
  rw [show ((sig B * 1024 : Nat) : Int) = (sig B : Int) * 1024 by omega] at C0
  have C := Lib.hid C0
  clear C0
  have hcl := cutv_lt (m := sig B * 1024) (n := n) (by omega)
  generalize cutv (sig B * 1024) n = y at *
  have W1 := fun s => fr_word s (m := sig A * 1024 + y) (by omega) (e := xpo A - 10) (by omega) (by omega) w
  have W2 := fun s => fr_word s (m := sig A * 1024 - y) (by omega) (e := xpo A - 10) (by omega) (by omega) w
  rw [S] at W1
  rw [D1] at W2
  rw [show ((sig A * 1024 + y : Nat) : Int) = (sig A : Int) * 1024 + (y : Int) by omega] at W1
  rw [show ((sig A * 1024 - y : Nat) : Int) = (sig A : Int) * 1024 - (y : Int) by omega] at W2
  clear S D1
  generalize fsumF A B = F at *
  generalize hM1 : mag (vl A + vl B) 1 = M1 at *
  generalize hM2 : mag (vl A - vl B) 1 = M2 at *
  generalize hsA : sig A = sA at *
  generalize hsB : sig B = sB at *
  generalize hxA : xpo A = xA at *
  generalize hxB : xpo B = xB at *
  generalize hvA : vl A = vA at *
  generalize hvB : vl B = vB at *
  generalize hmA : mant a = ma at *
  generalize hmB : mant b = mb at *
  clear hsA hsB hxA hxB hvA hvB hmA hmB
  obtain ⟨z, hz⟩ : ∃ z : Int, xA - 10 = z := ⟨_, rfl⟩
  rw [hz] at W1 W2
  have HF := Lib.hid hF
  have HW1 := Lib.hid W1
  have HW2 := Lib.hid W2
  have HD3 := Lib.hid D3
  have HM1 := Lib.hid hM1
  have HM2 := Lib.hid hM2
  have HV := Lib.hid hvle
  clear hF W1 W2 D3 hM1 hM2 hvle hle
  go_enter Tryz.func156, Tryz.ntmps156
  go_upto_if 19 with (fail)
  go_cut [0, 1] (fun s0 s1 wx => s0 = .int .u64 A ∧ s1 = .int .u64 B ∧ w = wx)
  case first =>
    rcases hcase with ⟨rfl, rfl, h⟩ | ⟨rfl, rfl, h⟩
    · have d : decide ((2 * ma : Nat) < ((2 * mb : Nat) : Int)) = false := decide_eq_false (by omega)
      go_wp2_with fail
      go_meet
      exact ⟨rfl, rfl, rfl⟩
    · have d : decide ((2 * ma : Nat) < ((2 * mb : Nat) : Int)) = true := decide_eq_true (by omega)
      go_wp2_with fail
      go_meet
      exact ⟨rfl, rfl, rfl⟩
  case rest =>
  obtain ⟨rfl, rfl, rfl⟩ := hcut
  clear hcase
  go_wp2_with fail
  refine P1.out.mono ?_
  rintro _ w' ⟨rfl, rfl⟩
  go_wp2_with fail
  refine P2.out.mono ?_
  rintro _ w' ⟨rfl, rfl⟩
  go_wp2_with fail
  refine C.out.mono ?_
  rintro _ w' ⟨rfl, rfl⟩
  by_cases hs : ng A = ng B
  · have hF2 := HF.out
    rw [if_pos hs] at hF2
    have HF3 := Lib.hid hF2
    clear hF2 HF HW2 HD3 HM2
    rw [← hs]
    clear hs
    generalize ng A = g at *
    go_wp2_with fail
    with_reducible refine (HW1.out g).mono ?_
    rintro _ w' ⟨rfl, b1⟩
    go_wp2_with fail
    go_ret
    exact ⟨ret1 (by rw [HF3.out]), b1⟩
  · have hF2 := HF.out
    rw [if_neg hs] at hF2
    by_cases hv : vA = vB
    · have hy := HD3.out.2 hv
      rw [if_pos hv] at hF2
      have W0 := fr_word false (m := 0) (by omega) (e := z) (by omega) (by omega) w
      rw [magR_zero, show ((0 : Nat) : Int) = 0 from rfl] at W0
      have HW0 := Lib.hid W0
      have e2 : ((sA : Int) * 1024 != (y : Int)) = false := by simp; omega
      have HF3 := Lib.hid hF2
      clear hF2 HF HW1 HW2 HD3 HM1 HM2 W0
      generalize ng A = g at *
      generalize ng B = g2 at *
      cases g <;> cases g2
      · exact absurd rfl hs
      · go_wp2_with fail
        with_reducible refine HW0.out.mono ?_
        rintro _ w' ⟨rfl, b1⟩
        go_wp2_with fail
        go_ret
        exact ⟨ret1 (by rw [HF3.out]; rfl), b1⟩
      · go_wp2_with fail
        with_reducible refine HW0.out.mono ?_
        rintro _ w' ⟨rfl, b1⟩
        go_wp2_with fail
        go_ret
        exact ⟨ret1 (by rw [HF3.out]; rfl), b1⟩
      · exact absurd rfl hs
    · have hy : ¬ y = sA * 1024 := fun h => hv (HD3.out.1 h)
      have hvl := HV.out
      rw [if_neg hv, if_pos (by omega)] at hF2
      have e2 : ((sA : Int) * 1024 != (y : Int)) = true := by simp; omega
      have HF3 := Lib.hid hF2
      clear hF2 HF HW1 HD3 HM1 HM2
      generalize ng A = g at *
      generalize ng B = g2 at *
      cases g <;> cases g2
      · exact absurd rfl hs
      · go_wp2_with fail
        with_reducible refine (HW2.out false).mono ?_
        rintro _ w' ⟨rfl, b1⟩
        go_wp2_with fail
        go_ret
        exact ⟨ret1 (by rw [HF3.out]), b1⟩
      · go_wp2_with fail
        with_reducible refine (HW2.out true).mono ?_
        rintro _ w' ⟨rfl, b1⟩
        go_wp2_with fail
        go_ret
        exact ⟨ret1 (by rw [HF3.out]), b1⟩
      · exact absurd rfl hs

/-- an infinite one's word says its sign -/
theorem kd3 {b : Nat} (hb : b < 18446744073709551616) (h : kd b = 3) : b = sg (ng b) INF := by
  have h1 : fld b = 2047 ∧ rst b = 0 := by
    unfold kd at h
    split at h
    · split at h
      · exact ⟨by assumption, by assumption⟩
      · omega
    · split at h
      · split at h <;> omega
      · omega
  have h2 := sg_mant b hb
  have h3 := mant_fld b
  have h4 := INF_eq
  rw [B52_eq] at *
  have : mant b = INF := by omega
  rw [this] at h2
  exact h2.symm

set_option maxHeartbeats 2000000 in
theorem fs_end {a b : Nat} (ha : a < 18446744073709551616) (hb : b < 18446744073709551616) (hk : ¬ (kd a ≤ 2 ∧ kd b ≤ 2)) (w : World) :
    Calls Tryz.prog 155 #[.int .u64 a, .int .u64 b] w fun e w' => e = .returned (.int .u64 (fadd a b)) ∧ w = w' := by
  have K1 := Lib.hid (fb_kind ha w)
  have K2 := Lib.hid (fb_kind hb w)
  have c1 := (kd_cases a).1
  have c2 := (kd_cases b).1
  have hF : fadd a b = if kd a = 4 ∨ kd b = 4 ∨ (kd a = 3 ∧ kd b = 3 ∧ a ≠ b) then NAN else if kd a = 3 then a else if kd b = 3 then b else fsumF a b := rfl
  generalize fadd a b = F at *
  generalize kd a = k at *
  generalize kd b = l at *
  by_cases h1 : k = 4
  · subst h1
    rw [if_pos (.inl rfl)] at hF
    have HF := Lib.hid hF
    clear hF hk
    go_enter Tryz.func155, Tryz.ntmps155
    go_wp2_with fail
    refine K1.out.mono ?_
    rintro _ w' ⟨rfl, rfl⟩
    go_wp2_with fail
    refine K2.out.mono ?_
    rintro _ w' ⟨rfl, rfl⟩
    go_wp2_with fail
    refine (fb_nan _).mono ?_
    rintro _ w' ⟨rfl, rfl⟩
    go_wp2_with fail
    go_ret
    exact ⟨ret1 (by rw [HF.out]), rfl⟩
  · have g1 : ((k : Int) == 4) = false := by simp; omega
    by_cases h2 : l = 4
    · subst h2
      rw [if_pos (.inr (.inl rfl))] at hF
      have HF := Lib.hid hF
      clear hF hk
      go_enter Tryz.func155, Tryz.ntmps155
      go_wp2_with fail
      refine K1.out.mono ?_
      rintro _ w' ⟨rfl, rfl⟩
      go_wp2_with fail
      refine K2.out.mono ?_
      rintro _ w' ⟨rfl, rfl⟩
      go_wp2_with fail
      refine (fb_nan _).mono ?_
      rintro _ w' ⟨rfl, rfl⟩
      go_wp2_with fail
      go_ret
      exact ⟨ret1 (by rw [HF.out]), rfl⟩
    · have g2 : ((l : Int) == 4) = false := by simp; omega
      by_cases h3 : k = 3
      · subst h3
        by_cases h4 : l = 3
        · subst h4
          by_cases h5 : a = b
          · subst h5
            rw [if_neg (by omega), if_pos rfl] at hF
            have HF := Lib.hid hF
            clear hF hk
            go_enter Tryz.func155, Tryz.ntmps155
            go_wp2_with fail
            refine K1.out.mono ?_
            rintro _ w' ⟨rfl, rfl⟩
            go_wp2_with fail
            refine K2.out.mono ?_
            rintro _ w' ⟨rfl, rfl⟩
            go_wp2_with fail
            go_ret
            exact ⟨ret1 (by rw [HF.out]), rfl⟩
          · rw [if_pos (.inr (.inr ⟨rfl, rfl, h5⟩))] at hF
            have g5 : ((a : Int) != b) = true := by simp; omega
            have HF := Lib.hid hF
            clear hF hk
            go_enter Tryz.func155, Tryz.ntmps155
            go_wp2_with fail
            refine K1.out.mono ?_
            rintro _ w' ⟨rfl, rfl⟩
            go_wp2_with fail
            refine K2.out.mono ?_
            rintro _ w' ⟨rfl, rfl⟩
            go_wp2_with fail
            refine (fb_nan _).mono ?_
            rintro _ w' ⟨rfl, rfl⟩
            go_wp2_with fail
            go_ret
            exact ⟨ret1 (by rw [HF.out]), rfl⟩
        · have g4 : ((3 : Int) == l) = false := by simp; omega
          rw [if_neg (by omega), if_pos rfl] at hF
          have HF := Lib.hid hF
          clear hF hk
          go_enter Tryz.func155, Tryz.ntmps155
          go_wp2_with fail
          refine K1.out.mono ?_
          rintro _ w' ⟨rfl, rfl⟩
          go_wp2_with fail
          refine K2.out.mono ?_
          rintro _ w' ⟨rfl, rfl⟩
          go_wp2_with fail
          go_ret
          exact ⟨ret1 (by rw [HF.out]), rfl⟩
      · obtain rfl : l = 3 := by omega
        have g3 : ((k : Int) == 3) = false := by simp; omega
        rw [if_neg (by omega), if_neg h3, if_pos rfl] at hF
        have HF := Lib.hid hF
        clear hF hk
        go_enter Tryz.func155, Tryz.ntmps155
        go_wp2_with fail
        refine K1.out.mono ?_
        rintro _ w' ⟨rfl, rfl⟩
        go_wp2_with fail
        refine K2.out.mono ?_
        rintro _ w' ⟨rfl, rfl⟩
        go_wp2_with fail
        go_ret
        exact ⟨ret1 (by rw [HF.out]), rfl⟩

set_option maxHeartbeats 2000000 in
theorem fs_add {a b : Nat} (ha : a < 18446744073709551616) (hb : b < 18446744073709551616) (w : World) :
    Calls Tryz.prog 97 #[.int .u64 a, .int .u64 b] w (RetW (fadd a b) w) := by
  have K1 := Lib.hid (fb_kind ha w)
  have K2 := Lib.hid (fb_kind hb w)
  have c1 := (kd_cases a).2
  have c2 := (kd_cases b).2
  have hF : fadd a b = if kd a = 4 ∨ kd b = 4 ∨ (kd a = 3 ∧ kd b = 3 ∧ a ≠ b) then NAN else if kd a = 3 then a else if kd b = 3 then b else fsumF a b := rfl
  by_cases h : kd a ≤ 2 ∧ kd b ≤ 2
  · rw [if_neg (by omega), if_neg (by omega), if_neg (by omega)] at hF
    have S := fs_fin ha hb (c1.1 h.1) (c2.1 h.2) w
    rw [← hF] at S
    have HS := Lib.hid S
    generalize fadd a b = F at *
    generalize kd a = k at *
    generalize kd b = l at *
    have g1 : decide (3 ≤ (k : Int)) = false := decide_eq_false (by omega)
    have g2 : decide (3 ≤ (l : Int)) = false := decide_eq_false (by omega)
    clear S hF h c1 c2
    go_enter Tryz.func97, Tryz.ntmps97
    go_wp2_with fail
    refine K1.out.mono ?_
    rintro _ w' ⟨rfl, rfl⟩
    go_wp2_with fail
    refine K2.out.mono ?_
    rintro _ w' ⟨rfl, rfl⟩
    go_wp2_with fail
    with_reducible refine HS.out.mono ?_
    rintro _ w' ⟨rfl, b1⟩
    go_wp2_with fail
    go_ret
    exact ⟨rfl, b1⟩
  · have HS := Lib.hid (fs_end ha hb h w)
    generalize fadd a b = F at *
    generalize kd a = k at *
    generalize kd b = l at *
    clear hF c1 c2
    by_cases h1 : 3 ≤ k
    · have g1 : decide (3 ≤ (k : Int)) = true := decide_eq_true (by omega)
      go_enter Tryz.func97, Tryz.ntmps97
      go_wp2_with fail
      refine K1.out.mono ?_
      rintro _ w' ⟨rfl, rfl⟩
      go_wp2_with fail
      with_reducible refine HS.out.mono ?_
      rintro _ w' ⟨rfl, rfl⟩
      go_wp2_with fail
      go_ret
      exact ⟨rfl, Below.refl _ _⟩
    · have g1 : decide (3 ≤ (k : Int)) = false := decide_eq_false (by omega)
      have g2 : decide (3 ≤ (l : Int)) = true := decide_eq_true (by omega)
      go_enter Tryz.func97, Tryz.ntmps97
      go_wp2_with fail
      refine K1.out.mono ?_
      rintro _ w' ⟨rfl, rfl⟩
      go_wp2_with fail
      refine K2.out.mono ?_
      rintro _ w' ⟨rfl, rfl⟩
      go_wp2_with fail
      with_reducible refine HS.out.mono ?_
      rintro _ w' ⟨rfl, rfl⟩
      go_wp2_with fail
      go_ret
      exact ⟨rfl, Below.refl _ _⟩

theorem flc_lt (b : Nat) : flc b < 18446744073709551616 := by have := flp_lt b; unfold flc NAN; split <;> omega
set_option maxHeartbeats 1000000 in
theorem fs_sub {a b : Nat} (ha : a < 18446744073709551616) (hb : b < 18446744073709551616) (w : World) :
    Calls Tryz.prog 98 #[.int .u64 a, .int .u64 b] w (RetW (fsub a b) w) := by
  have K1 := Lib.hid (fb_flip hb w)
  have HS := Lib.hid (fs_add ha (flc_lt b) w)
  unfold fsub
  generalize fadd a (flc b) = F at *
  generalize flc b = k at *
  go_enter Tryz.func98, Tryz.ntmps98
  go_wp2_with fail
  refine K1.out.mono ?_
  rintro _ w' ⟨rfl, rfl⟩
  go_wp2_with fail
  with_reducible refine HS.out.mono ?_
  rintro _ w' ⟨rfl, b1⟩
  go_wp2_with fail
  go_ret
  exact ⟨rfl, b1⟩

end Go.Proofs.YtibgpeaplmcogaaGreatDoor

namespace Go.Proofs.YtibgpeaplmcogaaGreatDoor
set_option maxRecDepth 100000
open Go.RowKit
set_option linter.unusedVariables false
set_option linter.unusedSimpArgs false

set_option maxHeartbeats 1000000 in
theorem fp_mark {m r : Nat} (hm : m < 18446744073709551616) (w : World) :
    Calls Tryz.prog 161 #[.int .u64 m, .int .u64 r] w fun e w' => e = .returned (.int .u64 (mkd m (decide (r ≠ 0)))) ∧ w = w' := by
  have e2 := or_one (q := m) hm
  by_cases h : r = 0
  · subst h
    rw [decide_eq_false (by omega), mkd_no]
    go_enter Tryz.func161, Tryz.ntmps161
    go_wp2_with fail
    go_ret
    exact ⟨rfl, rfl⟩
  · rw [decide_eq_true h, mkd_yes]
    have g : ((r : Int) != 0) = true := by simp; omega
    go_enter Tryz.func161, Tryz.ntmps161
    go_wp2_with fail
    go_ret
    exact ⟨ret1 (by omega), rfl⟩
set_option maxHeartbeats 1000000 in
theorem fp_full {b : Nat} (hb : b < 18446744073709551616) (hf : fld b < 2047) (w : World) :
    Calls Tryz.prog 159 #[.int .u64 b] w fun e w' => e = .returned (.tuple #[.int .u64 (fsg b), .int .i64 (fxp b)]) ∧ w = w' := by
  have P := Lib.hid (fb_partsY hb hf w)
  have s1 := sig_lt b
  have hbl := sig_blen b
  have L := limb_len (sig b : Int) (by unfold U; omega) w
  rw [Int.toNat_natCast] at L
  have HL := Lib.hid L
  obtain ⟨n, hn⟩ : ∃ n : Nat, 64 - blen (sig b) = n := ⟨_, rfl⟩
  have hn1 : (64 : Int) - blen (sig b) = n := by omega
  have hfl := fsg_lt b
  have r1 := xpo_range hf
  have hx : fxp b = xpo b - n := by unfold fxp; rw [hn]
  have hg : IntKind.u64.wrap ((sig b : Int) * 2 ^ n) = ((fsg b : Nat) : Int) := by
    have : fsg b = sig b * 2 ^ n := by unfold fsg; rw [hn]
    rw [this] at hfl ⊢
    have hc : (sig b : Int) * 2 ^ n = ((sig b * 2 ^ n : Nat) : Int) := by push_cast; rfl
    rw [hc, wrapU]
    omega
  generalize fsg b = F at *
  generalize fxp b = X at *
  generalize sig b = s at *
  generalize xpo b = x at *
  generalize blen s = l at *
  have HX := Lib.hid hx
  clear hx L hn
  go_enter Tryz.func159, Tryz.ntmps159
  go_wp2_with fail
  refine P.out.mono ?_
  rintro _ w' ⟨rfl, rfl⟩
  go_wp2_with fail
  refine HL.out.mono ?_
  rintro _ w' ⟨rfl, rfl⟩
  go_wp2_with fail
  go_ret2
  exact ⟨ret2 rfl (by rw [HX.out]), rfl⟩

/-- after k pairs of bits -/
def RootAt (m k mi r s : Nat) : Prop := k ≤ 56 ∧ r * r + s = m * 4 ^ k / 18446744073709551616 ∧ s ≤ 2 * r ∧ mi = m * 4 ^ k % 18446744073709551616 ∧ r < 2 ^ k
theorem rootAt_0 {m : Nat} (h : m < 18446744073709551616) : RootAt m 0 m 0 0 := ⟨by omega, by rw [Nat.pow_zero]; omega, by omega, by rw [Nat.pow_zero]; omega, by decide⟩
theorem rootAt_next {m k mi r s : Nat} (h : RootAt m k mi r s) : 2 * r * (2 * r) + (4 * s + mi / 4611686018427387904) = m * 4 ^ (k + 1) / 18446744073709551616 ∧ mi * 4 % 18446744073709551616 = m * 4 ^ (k + 1) % 18446744073709551616 := by
  obtain ⟨h1, h2, h3, h4, h5⟩ := h
  have e : m * 4 ^ (k + 1) = m * 4 ^ k * 4 := by rw [Nat.pow_succ, Nat.mul_assoc]
  have e2 : 2 * r * (2 * r) = 4 * (r * r) := by grind
  rw [e, e2]
  generalize m * 4 ^ k = z at *
  generalize r * r = q at *
  omega
theorem rootAt_yes {m k mi r s : Nat} (h : RootAt m k mi r s) (hk : k < 56) (hc : 4 * r + 1 ≤ 4 * s + mi / 4611686018427387904) : RootAt m (k + 1) (mi * 4 % 18446744073709551616) (2 * r + 1) (4 * s + mi / 4611686018427387904 - (4 * r + 1)) := by
  obtain ⟨a1, a2⟩ := rootAt_next h
  obtain ⟨h1, h2, h3, h4, h5⟩ := h
  have hm : mi < 18446744073709551616 := by rw [h4]; exact Nat.mod_lt _ (by omega)
  refine ⟨by omega, ?_, by omega, a2, by rw [Nat.pow_succ]; omega⟩
  rw [← a1]
  have : (2 * r + 1) * (2 * r + 1) = 2 * r * (2 * r) + 4 * r + 1 := by grind
  omega
theorem rootAt_no {m k mi r s : Nat} (h : RootAt m k mi r s) (hk : k < 56) (hc : ¬ 4 * r + 1 ≤ 4 * s + mi / 4611686018427387904) : RootAt m (k + 1) (mi * 4 % 18446744073709551616) (2 * r) (4 * s + mi / 4611686018427387904) := by
  obtain ⟨a1, a2⟩ := rootAt_next h
  obtain ⟨h1, h2, h3, h4, h5⟩ := h
  exact ⟨by omega, a1, by omega, a2, by rw [Nat.pow_succ]; omega⟩
theorem rootAt_end {m mi r s : Nat} (h : RootAt m 56 mi r s) : r = rt (m * 281474976710656) ∧ s = m * 281474976710656 - rt (m * 281474976710656) * rt (m * 281474976710656) := by
  obtain ⟨h1, h2, h3, h4, h5⟩ := h
  have e : m * 4 ^ 56 = m * 281474976710656 * 18446744073709551616 := by rw [Nat.mul_assoc, show (281474976710656 : Nat) * 18446744073709551616 = 4 ^ 56 by decide]
  rw [e, Nat.mul_div_cancel _ (by omega)] at h2
  have hr := rt_unique (a := m * 281474976710656) (r := r) (by omega) (by have := sq_succ r; omega)
  rw [hr]
  exact ⟨rfl, by omega⟩
theorem rootAt_bounds {m k mi r s : Nat} (h : RootAt m k mi r s) : k ≤ 56 ∧ s ≤ 2 * r ∧ r < 72057594037927936 ∧ mi < 18446744073709551616 := by
  obtain ⟨h1, h2, h3, h4, h5⟩ := h
  have : 2 ^ k ≤ 2 ^ 56 := Nat.pow_le_pow_right (by omega) h1
  exact ⟨h1, h3, by omega, by rw [h4]; exact Nat.mod_lt _ (by omega)⟩

set_option maxHeartbeats 2000000 in
theorem fp_root {m : Nat} (hm : m < 18446744073709551616) (w : World) :
    Calls Tryz.prog 163 #[.int .u64 m] w fun e w' => e = .returned (.tuple #[.int .u64 (rt (m * 281474976710656)), .int .u64 ((m * 281474976710656 - rt (m * 281474976710656) * rt (m * 281474976710656) : Nat) : Int)]) ∧ w = w' := by
  have HE := Lib.hid (fun mi r s => rootAt_end (m := m) (mi := mi) (r := r) (s := s))
  generalize rt (m * 281474976710656) = R at *
  generalize m * 281474976710656 - R * R = T at *
  go_enter Tryz.func163, Tryz.ntmps163
  go_wp2
  go_loop [0, 4, 5, 7] (fun x r s i => ∃ mi rr ss k : Nat, x = .int .u64 mi ∧ r = .int .u64 rr ∧ s = .int .u64 ss ∧ i = .int .i64 k ∧ RootAt m k mi rr ss) (fun _ _ _ i => (56 - intOf i).toNat)
  case atStart => exact ⟨m, 0, 0, 0, rfl, rfl, rfl, rfl, rootAt_0 hm⟩
  case round =>
    obtain ⟨mi, r, s, k, rfl, rfl, rfl, rfl, hk⟩ := hrel
    obtain ⟨b1, b2, b3, b4⟩ := rootAt_bounds hk
    by_cases h0 : k = 56
    · subst h0
      have HK := Lib.hid hk
      clear hk
      go_wp2
      go_ret2
      exact ⟨ret2 (by have := (HE.out _ _ _ HK.out).1; omega) (by have := (HE.out _ _ _ HK.out).2; omega), rfl⟩
    · have e1 : bits .or .u64 ((s : Int) * 4) ((mi : Int) / 4611686018427387904) = ((4 * s + mi / 4611686018427387904 : Nat) : Int) := by
        rw [or_join 2 (by unfold U; omega) (by simp) (by omega) (by simp; omega) (by unfold U; omega)]; omega
      have e2 : bits .or .u64 ((r : Int) * 4) 1 = ((4 * r + 1 : Nat) : Int) := by
        rw [or_join 2 (by unfold U; omega) (by simp) (by omega) (by simp) (by unfold U; omega)]; omega
      have e3 : bits .or .u64 ((r : Int) * 2) 1 = ((2 * r + 1 : Nat) : Int) := by
        rw [or_join 1 (by unfold U; omega) (by simp) (by omega) (by simp) (by unfold U; omega)]; omega
      have e4 : IntKind.u64.wrap ((mi : Int) * 4) = ((mi * 4 % 18446744073709551616 : Nat) : Int) := by rw [wrapU]; omega
      have hd : mi / 4611686018427387904 ≤ 3 := by omega
      have HY := Lib.hid (rootAt_yes hk (by omega))
      have HN := Lib.hid (rootAt_no hk (by omega))
      generalize hm4 : mi * 4 % 18446744073709551616 = m4 at *
      generalize hd4 : mi / 4611686018427387904 = d at *
      clear hk hm4 hd4
      obtain ⟨S, hS⟩ : ∃ S : Nat, S = 4 * s + d := ⟨_, rfl⟩
      rw [← hS] at e1 HY HN
      obtain ⟨G, hG⟩ : ∃ G : Nat, G = 4 * r + 1 := ⟨_, rfl⟩
      rw [← hG] at e2 HY HN
      have c1 : S ≤ 576460752303423488 := by omega
      have c2 : G ≤ 576460752303423488 := by omega
      clear hS hG
      by_cases hc : G ≤ S
      · go_wp2
        go_round
        case rel => exact ⟨m4, 2 * r + 1, S - G, k + 1, rfl, by go_num, by go_num, by go_num, HY.out hc⟩
        case measure => simp [intOf]; omega
      · go_wp2
        go_round
        case rel => exact ⟨m4, 2 * r, S, k + 1, rfl, by go_num, by go_num, by go_num, HN.out hc⟩
        case measure => simp [intOf]; omega

end Go.Proofs.YtibgpeaplmcogaaGreatDoor
