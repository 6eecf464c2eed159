/-
  What the document's Near of layer 13 returns for any word. Conditions: the word is below 2^64.
-/
import Derived.Test.YtmoahgiklgicgaaFsMath
import Derived.Test.YtmoahgiklgicgaaFrRunAll
import Derived.Test.YtmoahgiklgicgaaFbLaws
import Derived.Test.YtmoahgiklgicgaaRefShift
import Derived.Test.YtmoahgiklgicgaaFrToRatOne
namespace Go.Proofs.Ytmoahgiklgicgaa
set_option maxRecDepth 100000
open Go.RowKit
set_option linter.unusedVariables false
set_option linter.unusedSimpArgs false

/-- the number 1 in units of the least double -/
@[irreducible] def OO : Nat := 2 ^ K74
theorem OO_eq : OO = 2 ^ K74 := by unfold OO; rfl
theorem OO_pos : 0 < OO := by rw [OO_eq]; exact Nat.two_pow_pos _
theorem mag_upto {p d c : Nat} (hd : 0 < d) (hc : c < INF) (h : p ≤ fv c * d) : mag p d ≤ c := by
  have := mag_mono (p := p) (d := d) (p' := fv c) (d' := 1) hd (by omega) (by omega)
  rw [mag_fv hc] at this
  exact this
theorem mag_from {p d c : Nat} (hd : 0 < d) (hc : c < INF) (h : fv c * d ≤ p) : c ≤ mag p d := by
  have := mag_mono (p := fv c) (d := 1) (p' := p) (d' := d) (by omega) hd (by omega)
  rw [mag_fv hc] at this
  exact this
theorem fv_mono {a b : Nat} (hb : b < INF) (h : a ≤ b) : fv a ≤ fv b := by
  rcases Nat.lt_or_eq_of_le h with h1 | h1
  · exact Nat.le_of_lt (fv_lt (by omega) hb h1)
  · rw [h1]; exact Nat.le_refl _
/-! ### what layers 10 and 13 do, plainly -/
def fint (n : Int) : Nat := sg (decide (n < 0)) (magR n.natAbs 1 0)
def fscale (b : Nat) (k : Int) : Nat := if fld b < 2047 then sg (ng b) (magR (sig b) 1 (xpo b + k)) else cln b
/-- the integer nearest to a finite double -/
def fnv (b : Nat) : Int := sI (ng b) (rdiv (vl b) OO)
def fless (a b : Nat) : Bool :=
  if kd a = 4 ∨ kd b = 4 then false else if ng a = true ∧ ng b = true then decide (b < a) else if ng a = true then (decide (a ≠ 9223372036854775808) || decide (b ≠ 0)) else (!(ng b) && decide (a < b))
/-- where a word stands in the order of the values: its digits, with its sign -/
def rk (b : Nat) : Int := sI (ng b) (mant b)
def isn (b : Nat) : Bool := !(decide (kd b = 4))
def fsame (a b : Nat) : Bool := isn a && isn b && decide (rk a = rk b)
def fcm (a b : Nat) : Int := if kd a = 4 ∨ kd b = 4 then 2 else if rk a < rk b then -1 else if rk b < rk a then 1 else 0
theorem fless_rk {a b : Nat} (ha : a < 18446744073709551616) (hb : b < 18446744073709551616) : fless a b = (isn a && isn b && decide (rk a < rk b)) := by
  unfold fless isn
  by_cases h1 : kd a = 4
  · rw [if_pos (.inl h1)]; simp [h1]
  by_cases h2 : kd b = 4
  · rw [if_pos (.inr h2)]; simp [h2]
  rw [if_neg (by omega)]
  simp only [h1, h2, decide_false, Bool.not_false, Bool.true_and]
  unfold rk sI ng mant
  by_cases h3 : 9223372036854775808 ≤ a <;> by_cases h4 : 9223372036854775808 ≤ b
  · rw [decide_eq_true h3, decide_eq_true h4]
    simp
    omega
  · rw [decide_eq_true h3, decide_eq_false h4]
    simp
    rw [Bool.eq_iff_iff]
    simp
    omega
  · rw [decide_eq_false h3, decide_eq_true h4]
    simp
    omega
  · rw [decide_eq_false h3, decide_eq_false h4]
    simp
    omega
theorem fless_fcm {a b : Nat} (ha : a < 18446744073709551616) (hb : b < 18446744073709551616) : fless a b = decide (fcm a b = -1) := by
  rw [fless_rk ha hb]
  unfold fcm isn
  by_cases h1 : kd a = 4
  · rw [if_pos (.inl h1)]; simp [h1]
  by_cases h2 : kd b = 4
  · rw [if_pos (.inr h2)]; simp [h2]
  rw [if_neg (by omega)]
  simp only [h1, h2, decide_false, Bool.not_false, Bool.true_and]
  by_cases h : rk a < rk b
  · rw [if_pos h]; simp [h]
  · rw [if_neg h]
    by_cases h5 : rk b < rk a
    · rw [if_pos h5]; simp; omega
    · rw [if_neg h5]; simp; omega
theorem fsame_fcm (a b : Nat) : fsame a b = decide (fcm a b = 0) := by
  unfold fsame fcm isn
  by_cases h1 : kd a = 4
  · rw [if_pos (.inl h1)]; simp [h1]
  by_cases h2 : kd b = 4
  · rw [if_pos (.inr h2)]; simp [h2]
  rw [if_neg (by omega)]
  simp only [h1, h2, decide_false, Bool.not_false, Bool.true_and]
  by_cases h : rk a < rk b
  · rw [if_pos h]; simp; omega
  · rw [if_neg h]
    by_cases h5 : rk b < rk a
    · rw [if_pos h5]; simp; omega
    · rw [if_neg h5]; simp; omega
/-- the order of finite doubles is that of their exact values -/
theorem fcm_dq {a b : Nat} (fa : fld a < 2047) (fb : fld b < 2047) : cmpQ (dq a) (dq b) = if rk a < rk b then -1 else if rk b < rk a then 1 else 0 := by
  have hK : 2 ^ K74 ≠ 0 := by have := Nat.two_pow_pos K74; omega
  have hKp : (0 : Int) < ((2 ^ K74 : Nat) : Int) := Int.natCast_pos.2 (Nat.two_pow_pos K74)
  have h1 := mant_lt fa
  have h2 := mant_lt fb
  unfold dq rq
  rw [mk_cmp hK hK]
  simp only [Int.mul_lt_mul_right hKp]
  have key : ∀ (s t : Bool) (m n : Nat), m < INF → n < INF → (sI s (fv m) < sI t (fv n) ↔ sI s m < sI t n) := by
    intro s t m n hm hn
    have i1 : fv m < fv n ↔ m < n := ⟨fun h => by
      rcases Nat.lt_or_ge m n with hl | hl
      · exact hl
      · have := fv_mono hm hl; omega, fun h => fv_lt hm hn h⟩
    have i2 : fv n < fv m ↔ n < m := ⟨fun h => by
      rcases Nat.lt_or_ge n m with hl | hl
      · exact hl
      · have := fv_mono hn hl; omega, fun h => fv_lt hn hm h⟩
    have z1 := fv_eq_zero hm
    have z2 := fv_eq_zero hn
    unfold sI
    cases s <;> cases t <;> simp <;> omega
  unfold rk
  simp only [key _ _ _ _ h1 h2, key _ _ _ _ h2 h1]
/-! ### infinities stand beyond all others -/
theorem rk_inf {a : Nat} (h : kd a = 3) : rk a = sI (ng a) INF := by
  unfold rk
  congr 1
  have h1 := mant_fld a
  have h2 := Nat.div_add_mod (mant a) B52
  unfold kd at h
  split at h
  · rename_i h3
    split at h
    · rename_i h4
      rw [h1.1, h1.2, h3, h4] at h2
      have := INF_eq
      omega
    · omega
  · split at h
    · split at h <;> omega
    · omega
theorem rk_fin {a : Nat} (h : fld a < 2047) : -(INF : Int) < rk a ∧ rk a < INF := by
  have := mant_lt h
  unfold rk sI
  split <;> omega
theorem kd_fin {a : Nat} (h3 : kd a ≠ 3) (h4 : kd a ≠ 4) : fld a < 2047 := by
  have := fld_lt a
  rcases Nat.lt_or_eq_of_le this with h | h
  · exact h
  · exfalso
    unfold kd at h3 h4
    rw [if_pos h] at h3 h4
    by_cases hr : rst a = 0
    · rw [if_pos hr] at h3; exact h3 rfl
    · rw [if_neg hr] at h4; exact h4 rfl
/-- how a double that is no number, or a number, stands to 0: -2, 2 infinite, else 0 -/
def ord13 (a : Nat) : Int := if kd a = 3 then (if ng a = true then -2 else 2) else 0
theorem fcm_ord {a b : Nat} (h1 : kd a ≠ 4) (h2 : kd b ≠ 4) (h : ord13 a ≠ ord13 b ∨ ord13 a ≠ 0) : fcm a b = min (max (ord13 a - ord13 b) (-1)) 1 := by
  have hI := INF_lit
  unfold fcm
  rw [if_neg (by omega)]
  have ra : ord13 a = 0 ∧ -(INF : Int) < rk a ∧ rk a < INF ∨ ord13 a = 2 ∧ rk a = INF ∨ ord13 a = -2 ∧ rk a = -(INF : Int) := by
    unfold ord13
    by_cases h3 : kd a = 3
    · rw [if_pos h3, rk_inf h3]; unfold sI; cases ng a <;> simp
    · rw [if_neg h3]; exact .inl ⟨rfl, rk_fin (kd_fin h3 h1)⟩
  have rb : ord13 b = 0 ∧ -(INF : Int) < rk b ∧ rk b < INF ∨ ord13 b = 2 ∧ rk b = INF ∨ ord13 b = -2 ∧ rk b = -(INF : Int) := by
    unfold ord13
    by_cases h3 : kd b = 3
    · rw [if_pos h3, rk_inf h3]; unfold sI; cases ng b <;> simp
    · rw [if_neg h3]; exact .inl ⟨rfl, rk_fin (kd_fin h3 h2)⟩
  generalize ord13 a = x at *
  generalize ord13 b = y at *
  generalize rk a = r at *
  generalize rk b = q at *
  rw [hI] at ra rb
  split
  · omega
  · split <;> omega
theorem fcm_same {a b : Nat} (h1 : kd a ≠ 4) (h2 : kd b ≠ 4) (h : ord13 a = ord13 b ∧ ord13 a = 0) : fld a < 2047 ∧ fld b < 2047 ∧ fcm a b = cmpQ (dq a) (dq b) := by
  have z : ∀ c, ord13 c = 0 → kd c ≠ 3 := by
    intro c hc h3
    unfold ord13 at hc
    rw [if_pos h3] at hc
    split at hc <;> omega
  have fa := kd_fin (z a h.2) h1
  have fb := kd_fin (z b (by omega)) h2
  refine ⟨fa, fb, ?_⟩
  rw [fcm_dq fa fb]
  unfold fcm
  rw [if_neg (by omega)]
/-! ### the nearest integer -/
def nok (b : Nat) : Bool := decide (fld b < 2047) && decide ((blen (sig b) : Int) + xpo b ≤ 62)
def nrv (b : Nat) : Int := if nok b = true then fnv b else 0
theorem fnv_up {b : Nat} (f : fld b < 2047) {x : Nat} (h : xpo b = x) : fnv b = sI (ng b) (sig b * 2 ^ x) := by
  have hK := K74_eq
  unfold fnv
  congr 1
  rw [vl_eq, OO_eq, show (xpo b + 1074).toNat = x + K74 by omega, Nat.pow_add, ← Nat.mul_assoc, rdiv_exact _ (Nat.two_pow_pos _)]
theorem fnv_dn {b : Nat} (f : fld b < 2047) {k : Nat} (h : xpo b = -(k : Int)) : fnv b = sI (ng b) (rdiv (sig b) (2 ^ k)) := by
  have hK := K74_eq
  obtain ⟨h1, h2⟩ := xpo_range f
  unfold fnv
  congr 1
  rw [vl_eq, OO_eq, show (xpo b + 1074).toNat = K74 - k by omega, show K74 = k + (K74 - k) by omega, Nat.pow_add, show k + (K74 - k) - k = K74 - k by omega, rdiv_scale _ _ (Nat.two_pow_pos _)]
/-- the nearest integer as the significand of a least double -/
theorem near_word {m k : Nat} (hm : m < 9007199254740992) (hk : 1 ≤ k) : magR m 1 (-(k : Int) - 1074) < 18446744073709551616 ∧ fld (magR m 1 (-(k : Int) - 1074)) < 2047 ∧ sig (magR m 1 (-(k : Int) - 1074)) = rdiv m (2 ^ k) ∧ ng (magR m 1 (-(k : Int) - 1074)) = false := by
  have e : magR m 1 (-(k : Int) - 1074) = mag m (2 ^ k) := by
    unfold magR
    rw [up_zero (by omega), show dn (-(k : Int) - 1074) = k by unfold dn; omega, Nat.pow_zero, Nat.mul_one, Nat.one_mul]
  rw [e]
  have hB := B52_eq
  have hI := INF_lit
  have h2 : 2 ^ 1 ≤ 2 ^ k := Nat.pow_le_pow_right (by omega) hk
  have hp : 0 < 2 ^ k := Nat.two_pow_pos k
  have hfB : fv B52 = B52 := by
    unfold fv
    rw [Nat.div_self B52_pos, Nat.mod_self]
    simp
  have h3 : mag m (2 ^ k) ≤ B52 := by
    refine mag_upto hp (by omega) ?_
    rw [hfB]
    have : B52 * 2 ^ 1 ≤ B52 * 2 ^ k := Nat.mul_le_mul_left _ h2
    omega
  have h4 := fv_mag m hp (by omega : mag m (2 ^ k) < INF)
  have hq : m / 2 ^ k < 2 ^ 53 := Nat.lt_of_le_of_lt (Nat.div_le_self _ _) (by omega)
  have hu : ulp m (2 ^ k) = 0 := by
    unfold ulp
    have := blen_le hq
    omega
  rw [hu, Nat.pow_zero, Nat.mul_one, Nat.mul_one] at h4
  rw [← h4]
  generalize mag m (2 ^ k) = M at *
  have hM : mant M = M := by unfold mant; omega
  have hf : fld M ≤ 1 := by
    have := (mant_fld M).1
    rw [hM] at this
    rw [← this, hB]
    omega
  have hv := fv_mant M
  rw [hM] at hv
  have hx : xpo M = -1074 := by unfold xpo; split <;> omega
  rw [hx] at hv
  refine ⟨by omega, by omega, ?_, by unfold ng; exact decide_eq_false (by omega)⟩
  rw [hv]
  simp
theorem near_fits {b : Nat} (h : nok b = true) : (∀ x : Nat, xpo b = x → sig b * 2 ^ x < 4611686018427387904) ∧ (∀ k : Nat, 1 ≤ k → xpo b = -(k : Int) → rdiv (sig b) (2 ^ k) ≤ 4503599627370496) := by
  unfold nok at h
  rw [Bool.and_eq_true, decide_eq_true_eq, decide_eq_true_eq] at h
  have hs := sig_lt b
  refine ⟨fun x hx => ?_, fun k hk hx => ?_⟩
  · have h1 := blen_lt (sig b)
    have h2 : 2 ^ (blen (sig b) + x) ≤ 2 ^ 62 := Nat.pow_le_pow_right (by omega) (by omega)
    have h3 : sig b * 2 ^ x < 2 ^ blen (sig b) * 2 ^ x := (Nat.mul_lt_mul_right (Nat.two_pow_pos x)).2 h1
    rw [Nat.pow_add] at h2
    omega
  · have h2 : 2 ^ 1 ≤ 2 ^ k := Nat.pow_le_pow_right (by omega) hk
    have := rdiv_mono (p := sig b) (d := 2 ^ k) (p' := 4503599627370496) (d' := 1) (Nat.two_pow_pos k) (by omega) (by
      have : 4503599627370496 * 2 ^ 1 ≤ 4503599627370496 * 2 ^ k := Nat.mul_le_mul_left _ h2
      omega)
    rw [rdiv_one] at this
    exact this
theorem nok_of {b : Nat} (f : fld b < 2047) (h : (fnv b).natAbs ≤ 1077) : nok b = true := by
  unfold nok
  rw [Bool.and_eq_true, decide_eq_true_eq, decide_eq_true_eq]
  refine ⟨f, ?_⟩
  have hs := sig_lt b
  have hb : blen (sig b) ≤ 53 := blen_le (by omega)
  rcases Int.lt_or_le (xpo b) 0 with hl | hl
  · omega
  · obtain ⟨x, hx⟩ : ∃ x : Nat, xpo b = x := ⟨(xpo b).toNat, by omega⟩
    rw [fnv_up f hx, sI_natAbs] at h
    rw [hx]
    rcases Nat.eq_zero_or_pos (sig b) with h0 | h0
    · exfalso
      unfold xpo at hl
      unfold sig at h0
      split at hl
      · omega
      · rename_i h9
        rw [if_neg h9] at h0
        omega
    · have := blen_mul_pow h0 x
      have h3 : blen (sig b * 2 ^ x) ≤ 11 := blen_le (by omega)
      omega
theorem nrv_range (b : Nat) : -4611686018427387904 < nrv b ∧ nrv b < 4611686018427387904 := by
  unfold nrv
  by_cases h : nok b = true
  · rw [if_pos h]
    have hf : fld b < 2047 := by
      unfold nok at h
      rw [Bool.and_eq_true, decide_eq_true_eq, decide_eq_true_eq] at h
      exact h.1
    obtain ⟨h1, h2⟩ := near_fits h
    rcases Int.lt_or_le (xpo b) 0 with hl | hl
    · have := h2 (-(xpo b)).toNat (by omega) (by omega)
      rw [fnv_dn hf (k := (-(xpo b)).toNat) (by omega)]
      unfold sI
      split <;> omega
    · have := h1 (xpo b).toNat (by omega)
      rw [fnv_up hf (x := (xpo b).toNat) (by omega)]
      generalize sig b * 2 ^ (xpo b).toNat = z at *
      unfold sI
      split <;> omega
  · rw [if_neg h]; omega
/-! ### times powers of 2 -/
theorem scale_clamp {b : Nat} (f : fld b < 2047) (k : Int) {L : Int} (hL : 2200 ≤ L) : magR (sig b) 1 (xpo b + min (max k (-L)) L) = magR (sig b) 1 (xpo b + k) := by
  obtain ⟨h1, h2⟩ := xpo_range f
  have hs := sig_lt b
  rcases Nat.eq_zero_or_pos (sig b) with h0 | h0
  · rw [h0, magR_zero, magR_zero]
  · have hb := blen_pos h0
    have hb2 : blen (sig b) ≤ 53 := blen_le (by omega)
    rcases Int.lt_or_le k (-L) with hl | hl
    · rw [magR_small (e := xpo b + k) (by omega) (by rw [show blen 1 = 1 by decide]; omega), magR_small (by omega) (by rw [show blen 1 = 1 by decide]; omega)]
    · rcases Int.lt_or_le L k with hg | hg
      · rw [magR_big1 (e := xpo b + k) h0 (by omega), magR_big1 h0 (by omega)]
      · congr 1; omega
theorem fscale_lt {b : Nat} (hb : b < 18446744073709551616) (k : Int) : fscale b k < 18446744073709551616 := by
  unfold fscale
  split
  · exact sg_lt (mag_le _ _)
  · exact cln_lt hb
theorem fint_lt (n : Int) : fint n < 18446744073709551616 := sg_lt (mag_le _ _)

end Go.Proofs.Ytmoahgiklgicgaa

namespace Go.Proofs.Ytmoahgiklgicgaa
set_option maxRecDepth 100000
open Go.RowKit
set_option linter.unusedVariables false
set_option linter.unusedSimpArgs false

theorem sg_no (v : Nat) : sg false v = v := by unfold sg; rw [if_neg (by decide)]
theorem fc_isn {b : Nat} (hb : b < 18446744073709551616) (w : World) :
    Calls Try.prog 19 #[.int .u64 b] w fun e w' => e = .returned (.bool (isn b)) ∧ w = w' := by
  have K := Lib.hid (fb_kind hb w)
  have h : ((kd b : Int) != 4) = isn b := by
    unfold isn
    by_cases h4 : kd b = 4
    · rw [h4]; rfl
    · rw [decide_eq_false h4]; simp; omega
  generalize isn b = t at *
  generalize kd b = k at *
  go_enter Try.func19, Try.ntmps19
  go_wp2_with fail
  refine K.out.mono ?_
  rintro _ w' ⟨rfl, rfl⟩
  go_wp2_with fail
  go_ret
  exact ⟨rfl, rfl⟩
theorem fc_rank {b : Nat} (hb : b < 18446744073709551616) (w : World) :
    Calls Try.prog 20 #[.int .u64 b] w fun e w' => e = .returned (.int .i64 (rk b)) ∧ w = w' := by
  have N := Lib.hid (fb_neg hb w)
  have m1 : IntKind.u64.wrap ((b : Int) * 2) = ((2 * mant b : Nat) : Int) := by unfold mant; rw [wrapU]; omega
  have hm : mant b < 9223372036854775808 := by unfold mant; omega
  have hr : rk b = if ng b = true then -(mant b : Int) else mant b := rfl
  generalize rk b = r at *
  generalize mant b = m at *
  generalize ng b = s at *
  have m2 : ((2 * m : Nat) : Int) / 2 = (m : Int) := by omega
  have HR := Lib.hid hr
  clear hr
  cases s
  · go_enter Try.func20, Try.ntmps20
    go_wp2_with fail
    refine N.out.mono ?_
    rintro _ w' ⟨rfl, rfl⟩
    go_wp2_with fail
    go_ret
    exact ⟨ret1 (by rw [HR.out]; simp), rfl⟩
  · go_enter Try.func20, Try.ntmps20
    go_wp2_with fail
    refine N.out.mono ?_
    rintro _ w' ⟨rfl, rfl⟩
    go_wp2_with fail
    go_ret
    exact ⟨ret1 (by rw [HR.out]; simp), rfl⟩
theorem fc_less {a b : Nat} (ha : a < 18446744073709551616) (hb : b < 18446744073709551616) (w : World) :
    Calls Try.prog 8 #[.int .u64 a, .int .u64 b] w fun e w' => e = .returned (.bool (fless a b)) ∧ w = w' := by
  rw [fless_rk ha hb]
  have N1 := Lib.hid (fc_isn ha w)
  have N2 := Lib.hid (fc_isn hb w)
  have R1 := Lib.hid (fc_rank ha w)
  have R2 := Lib.hid (fc_rank hb w)
  generalize isn a = s at *
  generalize isn b = t at *
  generalize rk a = x at *
  generalize rk b = y at *
  cases s
  · go_enter Try.func8, Try.ntmps8
    go_wp2_with fail
    refine N1.out.mono ?_
    rintro _ w' ⟨rfl, rfl⟩
    go_wp2_with fail
    go_ret
    exact ⟨rfl, rfl⟩
  · cases t
    · go_enter Try.func8, Try.ntmps8
      go_wp2_with fail
      refine N1.out.mono ?_
      rintro _ w' ⟨rfl, rfl⟩
      go_wp2_with fail
      refine N2.out.mono ?_
      rintro _ w' ⟨rfl, rfl⟩
      go_wp2_with fail
      go_ret
      exact ⟨rfl, rfl⟩
    · go_enter Try.func8, Try.ntmps8
      go_wp2_with fail
      refine N1.out.mono ?_
      rintro _ w' ⟨rfl, rfl⟩
      go_wp2_with fail
      refine N2.out.mono ?_
      rintro _ w' ⟨rfl, rfl⟩
      go_wp2_with fail
      refine R1.out.mono ?_
      rintro _ w' ⟨rfl, rfl⟩
      go_wp2_with fail
      refine R2.out.mono ?_
      rintro _ w' ⟨rfl, rfl⟩
      go_wp2_with fail
      go_ret
      exact ⟨retB (by simp), rfl⟩
theorem fc_same {a b : Nat} (ha : a < 18446744073709551616) (hb : b < 18446744073709551616) (w : World) :
    Calls Try.prog 9 #[.int .u64 a, .int .u64 b] w fun e w' => e = .returned (.bool (fsame a b)) ∧ w = w' := by
  unfold fsame
  have N1 := Lib.hid (fc_isn ha w)
  have N2 := Lib.hid (fc_isn hb w)
  have R1 := Lib.hid (fc_rank ha w)
  have R2 := Lib.hid (fc_rank hb w)
  generalize isn a = s at *
  generalize isn b = t at *
  generalize rk a = x at *
  generalize rk b = y at *
  cases s
  · go_enter Try.func9, Try.ntmps9
    go_wp2_with fail
    refine N1.out.mono ?_
    rintro _ w' ⟨rfl, rfl⟩
    go_wp2_with fail
    go_ret
    exact ⟨rfl, rfl⟩
  · cases t
    · go_enter Try.func9, Try.ntmps9
      go_wp2_with fail
      refine N1.out.mono ?_
      rintro _ w' ⟨rfl, rfl⟩
      go_wp2_with fail
      refine N2.out.mono ?_
      rintro _ w' ⟨rfl, rfl⟩
      go_wp2_with fail
      go_ret
      exact ⟨rfl, rfl⟩
    · go_enter Try.func9, Try.ntmps9
      go_wp2_with fail
      refine N1.out.mono ?_
      rintro _ w' ⟨rfl, rfl⟩
      go_wp2_with fail
      refine N2.out.mono ?_
      rintro _ w' ⟨rfl, rfl⟩
      go_wp2_with fail
      refine R1.out.mono ?_
      rintro _ w' ⟨rfl, rfl⟩
      go_wp2_with fail
      refine R2.out.mono ?_
      rintro _ w' ⟨rfl, rfl⟩
      go_wp2_with fail
      go_ret
      exact ⟨retB (by simp only [Bool.true_and]; rw [Bool.eq_iff_iff]; simp), rfl⟩

set_option maxHeartbeats 2000000 in
theorem fc_scale {b : Nat} (hb : b < 18446744073709551616) (k : Int) (w : World) :
    Calls Try.prog 13 #[.int .u64 b, .int .i64 k] w (RetW (fscale b k) w) := by
  unfold fscale
  by_cases hf : fld b < 2047
  · rw [if_pos hf, ← scale_clamp hf k (L := 2200) (by omega)]
    obtain ⟨x1, x2⟩ := xpo_range hf
    have hs := sig_lt b
    have P := Lib.hid (fb_partsY hb hf w)
    obtain ⟨c, hc⟩ : ∃ c, min (max k (-2200)) 2200 = c := ⟨_, rfl⟩
    rw [hc]
    have hc1 : -2200 ≤ c ∧ c ≤ 2200 := by omega
    have W := Lib.hid (fr_word (ng b) (m := sig b) (by omega) (e := xpo b + c) (by omega) (by omega) w)
    generalize magR (sig b) 1 (xpo b + c) = M at *
    generalize sig b = m at *
    generalize xpo b = x at *
    generalize ng b = s at *
    go_enter Try.func13, Try.ntmps13
    go_wp2_with fail
    refine P.out.mono ?_
    rintro _ w' ⟨rfl, rfl⟩
    by_cases h1 : k < -2200
    · obtain rfl : c = -2200 := by omega
      go_wp2_with fail
      with_reducible refine W.out.mono ?_
      rintro _ w' ⟨rfl, b1⟩
      go_wp2_with fail
      go_ret
      exact ⟨rfl, b1⟩
    · by_cases h2 : 2200 < k
      · obtain rfl : c = 2200 := by omega
        have h3 : decide (2200 < k) = true := decide_eq_true h2
        go_wp2_with fail
        with_reducible refine W.out.mono ?_
        rintro _ w' ⟨rfl, b1⟩
        go_wp2_with fail
        go_ret
        exact ⟨rfl, b1⟩
      · obtain rfl : c = k := by omega
        go_wp2_with fail
        with_reducible refine W.out.mono ?_
        rintro _ w' ⟨rfl, b1⟩
        go_wp2_with fail
        go_ret
        exact ⟨rfl, b1⟩
  · rw [if_neg hf]
    have P := Lib.hid (fb_partsN hb hf w)
    have C := Lib.hid (fb_clean hb w)
    generalize cln b = r at *
    go_enter Try.func13, Try.ntmps13
    go_wp2_with fail
    refine P.out.mono ?_
    rintro _ w' ⟨rfl, rfl⟩
    go_wp2_with fail
    refine C.out.mono ?_
    rintro _ w' ⟨rfl, rfl⟩
    go_wp2_with fail
    go_ret
    exact ⟨rfl, Below.refl _ _⟩

/-- the nearest integer, as it is handed out -/
def RetN (b : Nat) (w : World) (x : Ending) (w' : World) : Prop := x = .returned (.tuple #[.int .i64 (nrv b), .bool (nok b)]) ∧ Below w.heap.size w w'
theorem retN {a c : Int} {p q : Bool} (h : a = c) (h' : p = q) : Ending.returned (.tuple #[.int .i64 a, .bool p]) = .returned (.tuple #[.int .i64 c, .bool q]) := by rw [h, h']

set_option maxHeartbeats 4000000 in
theorem fc_near {b : Nat} (hb : b < 18446744073709551616) (w : World) :
    Calls Try.prog 11 #[.int .u64 b] w (RetN b w) := by
  unfold RetN
  by_cases hf : fld b < 2047
  · obtain ⟨x1, x2⟩ := xpo_range hf
    have hs := sig_lt b
    have P := Lib.hid (fb_partsY hb hf w)
    have L0 := limb_len (sig b : Int) (by unfold U; omega) w
    rw [Int.toNat_natCast] at L0
    have L := Lib.hid L0
    clear L0
    have hbl : blen (sig b) ≤ 53 := blen_le (by omega)
    by_cases hn : (blen (sig b) : Int) + xpo b ≤ 62
    · have ho : nok b = true := by unfold nok; rw [decide_eq_true hf, decide_eq_true hn]; rfl
      obtain ⟨q1, q2⟩ := near_fits ho
      have hv : nrv b = fnv b := by unfold nrv; rw [if_pos ho]
      rw [ho, hv]
      clear hv ho
      rcases Int.lt_or_le (xpo b) 0 with hl | hl
      · obtain ⟨k, hk⟩ : ∃ k : Nat, xpo b = -(k : Int) := ⟨(-(xpo b)).toNat, by omega⟩
        have hk1 : 1 ≤ k := by omega
        obtain ⟨y1, y2, y3, y4⟩ := near_word hs hk1
        have q3 := q2 k hk1 hk
        rw [fnv_dn hf hk]
        rw [← hk, Int.sub_eq_add_neg] at y1 y2 y3 y4
        have W := Lib.hid (fr_word false (m := sig b) (by omega) (e := xpo b + -1074) (by omega) (by omega) w)
        rw [sg_no] at W
        have P2 := fun w1 => fb_partsY y1 y2 w1
        rw [y3, y4] at P2
        generalize magR (sig b) 1 (xpo b + -1074) = M at *
        generalize xpo M = X2 at *
        generalize rdiv (sig b) (2 ^ k) = R at *
        generalize blen (sig b) = n at *
        generalize sig b = m at *
        generalize ng b = s at *
        generalize xpo b = z at *
        have HP2 := Lib.hid P2
        have hR : sI s R = if s = true then -(R : Int) else R := rfl
        clear y1 y2 y3 y4 P2 q1 q2 hk
        go_enter Try.func11, Try.ntmps11
        go_wp2_with fail
        refine P.out.mono ?_
        rintro _ w' ⟨rfl, rfl⟩
        go_wp2_with fail
        refine L.out.mono ?_
        rintro _ w' ⟨rfl, rfl⟩
        go_wp2_with fail
        with_reducible refine W.out.mono ?_
        rintro _ w1 ⟨rfl, b1⟩
        go_wp2_with fail
        with_reducible refine (HP2.out _).mono ?_
        rintro _ w' ⟨rfl, rfl⟩
        cases s
        · go_wp2_with fail
          go_ret2
          exact ⟨retN (by rw [hR]; simp) rfl, b1⟩
        · go_wp2_with fail
          go_ret2
          exact ⟨retN (by rw [hR]; simp) rfl, b1⟩
      · obtain ⟨x, hx⟩ : ∃ x : Nat, xpo b = x := ⟨(xpo b).toNat, by omega⟩
        have q3 := q1 x hx
        rw [fnv_up hf hx]
        have e1 : IntKind.u64.wrap ((sig b : Int) * 2 ^ x) = ((sig b * 2 ^ x : Nat) : Int) := by
          have hc : (sig b : Int) * 2 ^ x = ((sig b * 2 ^ x : Nat) : Int) := by push_cast; rfl
          rw [hc, wrapU]
          omega
        rw [hx] at P hn x1 x2
        generalize sig b * 2 ^ x = R at *
        generalize blen (sig b) = n at *
        generalize sig b = m at *
        generalize ng b = s at *
        have hR : sI s R = if s = true then -(R : Int) else R := rfl
        clear q1 q2
        go_enter Try.func11, Try.ntmps11
        go_wp2_with fail
        refine P.out.mono ?_
        rintro _ w' ⟨rfl, rfl⟩
        go_wp2_with fail
        refine L.out.mono ?_
        rintro _ w' ⟨rfl, rfl⟩
        cases s
        · go_wp2_with fail
          go_ret2
          exact ⟨retN (by rw [hR]; simp) rfl, Below.refl _ _⟩
        · go_wp2_with fail
          go_ret2
          exact ⟨retN (by rw [hR]; simp) rfl, Below.refl _ _⟩
    · have ho : nok b = false := by unfold nok; rw [decide_eq_true hf, decide_eq_false hn]; rfl
      have hv : nrv b = 0 := by unfold nrv; rw [ho]; rfl
      rw [ho, hv]
      generalize blen (sig b) = n at *
      generalize sig b = m at *
      generalize xpo b = x at *
      generalize ng b = s at *
      have hd : decide (62 < (n : Int) + x) = true := decide_eq_true (by omega)
      go_enter Try.func11, Try.ntmps11
      go_wp2_with fail
      refine P.out.mono ?_
      rintro _ w' ⟨rfl, rfl⟩
      go_wp2_with fail
      refine L.out.mono ?_
      rintro _ w' ⟨rfl, rfl⟩
      go_wp2_with fail
      go_ret2
      exact ⟨rfl, Below.refl _ _⟩
  · have P := Lib.hid (fb_partsN hb hf w)
    have ho : nok b = false := by unfold nok; rw [decide_eq_false hf]; rfl
    have hv : nrv b = 0 := by unfold nrv; rw [ho]; rfl
    rw [ho, hv]
    go_enter Try.func11, Try.ntmps11
    go_wp2_with fail
    refine P.out.mono ?_
    rintro _ w' ⟨rfl, rfl⟩
    go_wp2_with fail
    go_ret2
    exact ⟨rfl, Below.refl _ _⟩

end Go.Proofs.Ytmoahgiklgicgaa

namespace Go.Proofs.Ytmoahgiklgicgaa
set_option maxRecDepth 100000
open Go.RowKit
set_option linter.unusedVariables false
set_option linter.unusedSimpArgs false

set_option maxHeartbeats 2000000 in
theorem rf_ord13 {b : Nat} (hb : b < 18446744073709551616) (w : World) :
    Calls Try.prog 16 #[.int .u64 b] w fun e w' => e = .returned (.int .i64 (ord13 b)) ∧ w = w' := by
  have K1 := Lib.hid (rf_kind hb w)
  have N1 := Lib.hid (rf_neg hb w)
  have hF : ord13 b = if kd b = 3 then (if ng b = true then -2 else 2) else 0 := rfl
  generalize ord13 b = r at *
  generalize kd b = k1 at *
  generalize ng b = s at *
  by_cases h1 : k1 = 3
  · subst h1
    rw [if_pos rfl] at hF
    have HF := Lib.hid hF
    clear hF
    cases s
    · go_enter Try.func16, Try.ntmps16
      go_wp2_with fail
      refine K1.out.mono ?_
      rintro _ w' ⟨rfl, rfl⟩
      go_wp2_with fail
      refine N1.out.mono ?_
      rintro _ w' ⟨rfl, rfl⟩
      go_wp2_with fail
      go_ret
      exact ⟨ret1 HF.out.symm, rfl⟩
    · go_enter Try.func16, Try.ntmps16
      go_wp2_with fail
      refine K1.out.mono ?_
      rintro _ w' ⟨rfl, rfl⟩
      go_wp2_with fail
      refine N1.out.mono ?_
      rintro _ w' ⟨rfl, rfl⟩
      go_wp2_with fail
      go_ret
      exact ⟨ret1 HF.out.symm, rfl⟩
  · have g1 : ((k1 : Int) != 3) = true := by simp; omega
    rw [if_neg h1] at hF
    have HF := Lib.hid hF
    clear hF
    go_enter Try.func16, Try.ntmps16
    go_wp2_with fail
    refine K1.out.mono ?_
    rintro _ w' ⟨rfl, rfl⟩
    go_wp2_with fail
    go_ret
    exact ⟨ret1 HF.out.symm, rfl⟩
theorem ord_vals (b : Nat) : ord13 b = 0 ∨ ord13 b = 2 ∨ ord13 b = -2 := by
  unfold ord13
  split
  · split <;> simp
  · simp

set_option maxHeartbeats 4000000 in
theorem rf_cmp13 {a b : Nat} (ha : a < 18446744073709551616) (hb : b < 18446744073709551616) (w : World) :
    Calls Try.prog 7 #[.int .u64 a, .int .u64 b] w (RetI (fcm a b) w) := by
  have K1 := Lib.hid (rf_kind ha w)
  have K2 := Lib.hid (rf_kind hb w)
  have O1 := Lib.hid (rf_ord13 ha w)
  have O2 := Lib.hid (rf_ord13 hb w)
  by_cases h1 : kd a = 4
  · have hF : fcm a b = 2 := by unfold fcm; rw [if_pos (.inl h1)]
    rw [hF]
    rw [h1] at K1
    generalize kd b = k2 at *
    go_enter Try.func7, Try.ntmps7
    go_wp2_with fail
    refine K1.out.mono ?_
    rintro _ w' ⟨rfl, rfl⟩
    go_wp2_with fail
    go_ret
    exact ⟨rfl, Below.refl _ _⟩
  have g1 : ((kd a : Int) == 4) = false := by simp; omega
  by_cases h2 : kd b = 4
  · have hF : fcm a b = 2 := by unfold fcm; rw [if_pos (.inr h2)]
    rw [hF]
    rw [h2] at K2
    generalize kd a = k1 at *
    go_enter Try.func7, Try.ntmps7
    go_wp2_with fail
    refine K1.out.mono ?_
    rintro _ w' ⟨rfl, rfl⟩
    go_wp2_with fail
    refine K2.out.mono ?_
    rintro _ w' ⟨rfl, rfl⟩
    go_wp2_with fail
    go_ret
    exact ⟨rfl, Below.refl _ _⟩
  have g2 : ((kd b : Int) == 4) = false := by simp; omega
  by_cases h : ord13 a = ord13 b ∧ ord13 a = 0
  · obtain ⟨fa, fb, hF⟩ := fcm_same h1 h2 h
    rw [hF]
    obtain ⟨e1, e2⟩ := h
    rw [← e1, e2] at O2
    rw [e2] at O1
    have T1 := Lib.hid (rf_torat ha fa w)
    have T2 := Lib.hid (fun w1 => rf_torat hb fb w1)
    have CM := Lib.hid (fun (w1 : World) (s t : Bool) (A A' B B' : Option Addr) (n n' c c' m m' d d' : Nat) (q1 : Q w1 s A n c A' n' c' (dq a)) (q2 : Q w1 t B m d B' m' d' (dq b)) => ref_cmpQ q1 q2 (dq_sz fa) (dq_sz fb) (by omega))
    clear hF e1 e2 h1 h2
    generalize cmpQ (dq a) (dq b) = r at *
    generalize dq a = D1 at *
    generalize dq b = D2 at *
    generalize kd a = k1 at *
    generalize kd b = k2 at *
    go_enter Try.func7, Try.ntmps7
    go_wp2_with fail
    refine K1.out.mono ?_
    rintro _ w' ⟨rfl, rfl⟩
    go_wp2_with fail
    refine K2.out.mono ?_
    rintro _ w' ⟨rfl, rfl⟩
    go_wp2_with fail
    refine O1.out.mono ?_
    rintro _ w' ⟨rfl, rfl⟩
    go_wp2_with fail
    refine O2.out.mono ?_
    rintro _ w' ⟨rfl, rfl⟩
    go_wp2_with fail
    with_reducible refine T1.out.mono ?_
    rintro _ w1 ⟨s1, A1, n1, c1, A2, n2, c2, rfl, q1, b1⟩
    go_wp2_with fail
    with_reducible refine (T2.out _).mono ?_
    rintro _ w2 ⟨s3, A3, n3, c3, A4, n4, c4, rfl, q2, b2⟩
    go_wp2_with fail
    with_reducible refine (CM.out _ _ _ _ _ _ _ _ _ _ _ _ _ _ _ (q1.below b2) q2).mono ?_
    rintro _ w3 ⟨rfl, b3⟩
    go_wp2_with fail
    go_ret
    exact ⟨rfl, bb b1 (bb b2 b3)⟩
  · have hF := fcm_ord h1 h2 (by omega)
    rw [hF]
    have v1 := ord_vals a
    have v2 := ord_vals b
    generalize ord13 a = x at *
    generalize ord13 b = y at *
    clear hF h1 h2
    generalize kd a = k1 at *
    generalize kd b = k2 at *
    rcases v1 with rfl | rfl | rfl <;> rcases v2 with rfl | rfl | rfl
    all_goals first
      | exact absurd h (by decide)
      | (go_enter Try.func7, Try.ntmps7
         go_wp2_with fail
         refine K1.out.mono ?_
         rintro _ w' ⟨rfl, rfl⟩
         go_wp2_with fail
         refine K2.out.mono ?_
         rintro _ w' ⟨rfl, rfl⟩
         go_wp2_with fail
         refine O1.out.mono ?_
         rintro _ w' ⟨rfl, rfl⟩
         go_wp2_with fail
         refine O2.out.mono ?_
         rintro _ w' ⟨rfl, rfl⟩
         go_wp2_with fail
         go_ret
         exact ⟨rfl, Below.refl _ _⟩)

set_option maxHeartbeats 4000000 in
theorem rf_scale {b : Nat} (hb : b < 18446744073709551616) (k : Int) (w : World) :
    Calls Try.prog 14 #[.int .u64 b, .int .i64 k] w (RetW (fscale b k) w) := by
  unfold fscale
  have F := Lib.hid (rf_finite hb w)
  by_cases hf : fld b < 2047
  · have hfin : fin b = true := decide_eq_true hf
    rw [hfin] at F
    rw [if_pos hf, ← scale_clamp hf k (L := 9000) (by omega)]
    obtain ⟨x1, x2⟩ := xpo_range hf
    have hs := sig_lt b
    have P := Lib.hid (rf_parts hb w)
    have N := Lib.hid (rf_neg hb w)
    obtain ⟨c, hc⟩ : ∃ c, min (max k (-9000)) 9000 = c := ⟨_, rfl⟩
    rw [hc]
    have hc1 : -9000 ≤ c ∧ c ≤ 9000 := by omega
    have W0 := rf_of (ng b) (sl_lit w (sig b : Int) (by unfold U; omega)) (by omega) (e := xpo b + c) (by omega) (by omega)
    rw [val_one, Int.toNat_natCast] at W0
    have W := Lib.hid W0
    clear W0
    generalize magR (sig b) 1 (xpo b + c) = M at *
    generalize sig b = m at *
    generalize xpo b = x at *
    generalize ng b = s at *
    go_enter Try.func14, Try.ntmps14
    go_wp2_with fail
    refine F.out.mono ?_
    rintro _ w' ⟨rfl, rfl⟩
    go_wp2_with fail
    refine P.out.mono ?_
    rintro _ w' ⟨rfl, rfl⟩
    go_wp2_with fail
    refine N.out.mono ?_
    rintro _ w' ⟨rfl, rfl⟩
    by_cases h1 : k < -9000
    · obtain rfl : c = -9000 := by omega
      go_wp2_with fail
      with_reducible refine W.out.mono ?_
      rintro _ w' ⟨rfl, b1⟩
      go_wp2_with fail
      go_ret
      exact ⟨rfl, bb (below_alloc _ _) b1⟩
    · by_cases h2 : 9000 < k
      · obtain rfl : c = 9000 := by omega
        have h3 : decide (9000 < k) = true := decide_eq_true h2
        go_wp2_with fail
        with_reducible refine W.out.mono ?_
        rintro _ w' ⟨rfl, b1⟩
        go_wp2_with fail
        go_ret
        exact ⟨rfl, bb (below_alloc _ _) b1⟩
      · obtain rfl : c = k := by omega
        go_wp2_with fail
        with_reducible refine W.out.mono ?_
        rintro _ w' ⟨rfl, b1⟩
        go_wp2_with fail
        go_ret
        exact ⟨rfl, bb (below_alloc _ _) b1⟩
  · have hfin : fin b = false := decide_eq_false hf
    rw [hfin] at F
    rw [if_neg hf]
    have C := Lib.hid (rf_clean hb w)
    generalize cln b = r at *
    go_enter Try.func14, Try.ntmps14
    go_wp2_with fail
    refine F.out.mono ?_
    rintro _ w' ⟨rfl, rfl⟩
    go_wp2_with fail
    refine C.out.mono ?_
    rintro _ w' ⟨rfl, rfl⟩
    go_wp2_with fail
    go_ret
    exact ⟨rfl, Below.refl _ _⟩

end Go.Proofs.Ytmoahgiklgicgaa

namespace Go.Proofs.Ytmoahgiklgicgaa
set_option maxRecDepth 100000
open Go.RowKit
set_option linter.unusedVariables false
set_option linter.unusedSimpArgs false

theorem sig_up {b x : Nat} (h : xpo b = x) : 0 < sig b := by
  unfold xpo at h
  unfold sig
  by_cases h0 : fld b = 0
  · rw [if_pos h0] at h; omega
  · rw [if_neg h0]; omega
set_option maxRecDepth 100000 in
set_option maxHeartbeats 4000000 in
theorem rf_near {b : Nat} (hb : b < 18446744073709551616) (w : World) :
    Calls Try.prog 12 #[.int .u64 b] w (RetN b w) := by
  unfold RetN
  have F := Lib.hid (rf_finite hb w)
  by_cases hf : fld b < 2047
  · have hfin : fin b = true := decide_eq_true hf
    rw [hfin] at F
    obtain ⟨x1, x2⟩ := xpo_range hf
    have hs := sig_lt b
    have P := Lib.hid (rf_parts hb w)
    have N := fun w1 => rf_neg hb w1
    have hbl : blen (sig b) ≤ 53 := blen_le (by omega)
    have S1 := ref_shl (sl_lit w (sig b : Int) (by unfold U; omega)) (by omega) (xpo b)
    rw [val_one, Int.toNat_natCast] at S1
    obtain ⟨p1, _, _⟩ := dq_parts hf
    have S2 := fun (w1 : World) (A : Option Addr) (n c : Nat) (t : Sl w1 A n c (words (sig b * 2 ^ clampS (xpo b)))) => ref_shr t (by have := t.small p1; omega) (-(xpo b)) (by omega)
    simp only [val_words] at S2
    have BT := fun (w1 : World) (A : Option Addr) (n c : Nat) (Wh : Nat) (t : Sl w1 A n c (words Wh)) (hw : Wh < W ^ 18) => ref_bits t (by have := t.small hw; omega)
    simp only [val_words] at BT
    have hp2 : sig b * 2 ^ clampS (xpo b) / 2 ^ (-(xpo b)).toNat < W ^ 18 := Nat.lt_of_le_of_lt (Nat.div_le_self _ _) p1
    rcases Int.lt_or_le (xpo b) 0 with hl | hl
    · obtain ⟨k, hk⟩ : ∃ k : Nat, xpo b = -(k : Int) := ⟨(-(xpo b)).toNat, by omega⟩
      have hk1 : 1 ≤ k := by omega
      have ho : nok b = true := by unfold nok; rw [decide_eq_true hf, decide_eq_true (by omega)]; rfl
      have hv : nrv b = fnv b := by unfold nrv; rw [if_pos ho]
      have q3 := (near_fits ho).2 k hk1 hk
      rw [ho, hv, fnv_dn hf hk]
      rw [clampS_neg hl, Nat.pow_zero, Nat.mul_one, show (-(xpo b)).toNat = k by omega] at hp2 S2
      rw [clampS_neg hl, Nat.pow_zero, Nat.mul_one] at S1
      have hR : rdiv (sig b) (2 ^ k) = if 2 ^ k < 2 * (sig b % 2 ^ k) ∨ (2 * (sig b % 2 ^ k) = 2 ^ k ∧ sig b / 2 ^ k % 2 = 1) then sig b / 2 ^ k + 1 else sig b / 2 ^ k := rfl
      have hw53 : sig b / 2 ^ k < 9007199254740992 := Nat.lt_of_le_of_lt (Nat.div_le_self _ _) hs
      have hbw : blen (sig b / 2 ^ k) ≤ 53 := blen_le (by omega)
      have hdm := Nat.div_add_mod' (sig b) (2 ^ k)
      have S3 := fun (w1 : World) (A : Option Addr) (n c : Nat) (t : Sl w1 A n c (words (sig b / 2 ^ k))) => ref_shl t (by have := t.small hp2; omega) (-(xpo b))
      simp only [val_words] at S3
      have hc : clampS (-(xpo b)) = k := by rw [show -(xpo b) = (k : Int) by omega]; exact clampS_nat (by omega)
      rw [hc] at S3
      have hpr : sig b / 2 ^ k * 2 ^ k ≤ sig b := by omega
      have hpl : sig b / 2 ^ k * 2 ^ k < W ^ 1 := by rw [Nat.pow_one]; unfold W; omega
      have SB := fun (w1 : World) (A' : Option Addr) (n' c' : Nat) (B : Option Addr) (t1 : Sl w1 B 1 1 [(sig b : Int)]) (t : Sl w1 A' n' c' (words (sig b / 2 ^ k * 2 ^ k))) => ref_nsub t1 t (by omega) (by have := t.small hpl; omega) (by rw [val_words, val_one, Int.toNat_natCast]; exact hpr)
      simp only [val_words, val_one, Int.toNat_natCast] at SB
      rw [show sig b - sig b / 2 ^ k * 2 ^ k = sig b % 2 ^ k by omega] at SB
      have hrl : sig b % 2 ^ k < W ^ 1 := by rw [Nat.pow_one]; unfold W; have := Nat.mod_le (sig b) (2 ^ k); omega
      have hrl2 : 2 * (sig b % 2 ^ k) < W ^ 1 := by rw [Nat.pow_one]; unfold W; have := Nat.mod_le (sig b) (2 ^ k); omega
      have S4 := fun (w1 : World) (A : Option Addr) (n c : Nat) (t : Sl w1 A n c (words (sig b % 2 ^ k))) => ref_shl t (by have := t.small hrl; omega) 1
      simp only [val_words] at S4
      rw [show clampS 1 = 1 by decide, Nat.pow_one, Nat.mul_comm (sig b % 2 ^ k) 2] at S4
      have S5 := fun w1 => ref_shl (sl_lit w1 1 U_1) (by omega) (-(xpo b))
      rw [val_one, show (1 : Int).toNat = 1 from rfl, Nat.one_mul, hc] at S5
      have hTl : 2 ^ k < W ^ 18 := pow_lt_W (by omega)
      have CM := fun (w1 : World) (A A' : Option Addr) (n n' c c' : Nat) (t1 : Sl w1 A n c (words (2 * (sig b % 2 ^ k)))) (t2 : Sl w1 A' n' c' (words (2 ^ k))) => ref_cmp t1 t2 (by have := t1.small hrl2; omega) (by have := t2.small hTl; omega)
      simp only [val_words] at CM
      have hmr : sig b % 2 ^ k < 2 ^ k := Nat.mod_lt _ (Nat.two_pow_pos k)
      clear p1 hpr hpl hrl hrl2 hTl hdm
      generalize rdiv (sig b) (2 ^ k) = R at *
      generalize sig b / 2 ^ k * 2 ^ k = Y at *
      generalize sig b / 2 ^ k = Wh at *
      generalize sig b % 2 ^ k = r at *
      generalize 2 ^ k = T at *
      have BT2 := Lib.hid (fun (w1 : World) (A : Option Addr) (n c : Nat) (t : Sl w1 A n c (words Wh)) => BT w1 A n c Wh t hp2)
      clear hc BT hp2 hv ho
      generalize blen Wh = nb at *
      generalize blen (sig b) = nb2 at *
      generalize sig b = m at *
      generalize xpo b = z at *
      generalize ng b = s at *
      obtain ⟨cv, hcv⟩ : ∃ cv : Int, cmpN (2 * r) T = cv := ⟨_, rfl⟩
      have hcc : (2 * r < T ∧ cv = -1) ∨ (2 * r = T ∧ cv = 0) ∨ (T < 2 * r ∧ cv = 1) := by
        rw [← hcv]
        rcases Nat.lt_trichotomy (2 * r) T with h | h | h
        · exact .inl ⟨h, cmpN_lt h⟩
        · exact .inr (.inl ⟨h, by rw [h]; exact cmpN_eq _⟩)
        · exact .inr (.inr ⟨h, cmpN_gt h⟩)
      rw [hcv] at CM
      have hsR : sI s R = if s = true then -(R : Int) else R := rfl
      have HR := Lib.hid hR
      have HsR := Lib.hid hsR
      have HC := Lib.hid hcc
      have HS1 := Lib.hid S1
      have HS2 := Lib.hid S2
      have HS3 := Lib.hid S3
      have HS4 := Lib.hid S4
      have HS5 := Lib.hid S5
      have HSB := Lib.hid SB
      have HCM := Lib.hid CM
      have HN := Lib.hid N
      clear hR hsR hcc S1 S2 S3 S4 S5 SB CM N hcv hk hmr
      go_enter Try.func12, Try.ntmps12
      go_wp2_with fail
      refine F.out.mono ?_
      rintro _ w' ⟨rfl, rfl⟩
      go_wp2_with fail
      refine P.out.mono ?_
      rintro _ w' ⟨rfl, rfl⟩
      go_wp2_with fail
      with_reducible refine HS1.out.mono ?_
      rintro _ w1 ⟨A1, n1, c1, rfl, t1, b1⟩
      have y1 := bb (below_alloc w _) b1
      go_wp2_with fail
      with_reducible refine (HS2.out _ _ _ _ t1).mono ?_
      rintro _ w2 ⟨A2, n2, c2, rfl, t2, b2⟩
      have y2 := bb y1 b2
      clear t1 b1 b2 y1
      go_wp2_with fail
      with_reducible refine (BT2.out _ _ _ _ t2).mono ?_
      rintro _ w' ⟨rfl, rfl⟩
      go_upto_if 30 with (fail)
      go_cut [7] (fun s7 wx => s7 = .int .i64 Wh ∧ w2 = wx)
      case first =>
        rcases Nat.eq_zero_or_pos Wh with h0 | h0
        · subst h0
          obtain rfl := sl_zero t2
          go_wp2_with fail
          go_meet
          exact ⟨rfl, rfl⟩
        · obtain ⟨rfl, p, o, rfl, hcell⟩ := sl_onew t2 h0 (by unfold W; omega)
          go_wp2_with fail
          go_meet
          exact ⟨rfl, rfl⟩
      case rest =>
      obtain ⟨rfl, rfl⟩ := hcut
      go_wp2_with fail
      with_reducible refine (HS3.out _ _ _ _ (t2.below (below_alloc _ _))).mono ?_
      rintro _ w3 ⟨A3, n3, c3, rfl, t3, b3⟩
      have L3 := (sl_lit w2 (m : Int) (by unfold U; omega)).below b3
      have y3 := bb y2 (bb (below_alloc w2 _) b3)
      go_wp2_with fail
      with_reducible refine (HSB.out _ _ _ _ _ L3 t3).mono ?_
      rintro _ w4 ⟨A4, n4, c4, rfl, t4, b4⟩
      have y4 := bb y3 b4
      clear t2 t3 b3 L3 b4 y3
      go_wp2_with fail
      with_reducible refine (HS4.out _ _ _ _ t4).mono ?_
      rintro _ w5 ⟨A5, n5, c5, rfl, t5, b5⟩
      have y5 := bb y4 b5
      go_wp2_with fail
      with_reducible refine (HS5.out _).mono ?_
      rintro _ w6 ⟨A6, n6, c6, rfl, t6, b6⟩
      have t7 := t5.below (bb (below_alloc w5 _) b6)
      have y6 := bb y5 (bb (below_alloc w5 _) b6)
      clear t4 t5 b5 b6 y5 y4
      go_wp2_with fail
      with_reducible refine (HCM.out _ _ _ _ _ _ _ t7 t6).mono ?_
      rintro _ w' ⟨rfl, rfl⟩
      clear t6 t7
      have h9 := HR.out
      rcases HC.out with ⟨h, rfl⟩ | ⟨h, rfl⟩ | ⟨h, rfl⟩
      · rw [if_neg (by omega)] at h9
        have H9 := Lib.hid h9
        clear HR HC h9
        go_wp2_with fail
        refine (HN.out _).mono ?_
        rintro _ w' ⟨rfl, rfl⟩
        cases s
        · go_wp2_with fail
          go_ret2
          exact ⟨retN (by rw [HsR.out, H9.out]; simp) rfl, y6⟩
        · go_wp2_with fail
          go_ret2
          exact ⟨retN (by rw [HsR.out, H9.out]; simp) rfl, y6⟩
      · by_cases hodd : Wh % 2 = 1
        · rw [if_pos (by omega)] at h9
          have hm : (Wh : Int).tmod 2 = 1 := by rw [Int.tmod_eq_emod_of_nonneg (by omega)]; omega
          have H9 := Lib.hid h9
          clear HR HC h9
          go_wp2_with fail
          refine (HN.out _).mono ?_
          rintro _ w' ⟨rfl, rfl⟩
          cases s
          · go_wp2_with fail
            go_ret2
            exact ⟨retN (by rw [HsR.out, H9.out]; simp) rfl, y6⟩
          · go_wp2_with fail
            go_ret2
            exact ⟨retN (by rw [HsR.out, H9.out]; simp) rfl, y6⟩
        · rw [if_neg (by omega)] at h9
          have hm : (Wh : Int).tmod 2 = 0 := by rw [Int.tmod_eq_emod_of_nonneg (by omega)]; omega
          have H9 := Lib.hid h9
          clear HR HC h9
          go_wp2_with fail
          refine (HN.out _).mono ?_
          rintro _ w' ⟨rfl, rfl⟩
          cases s
          · go_wp2_with fail
            go_ret2
            exact ⟨retN (by rw [HsR.out, H9.out]; simp) rfl, y6⟩
          · go_wp2_with fail
            go_ret2
            exact ⟨retN (by rw [HsR.out, H9.out]; simp) rfl, y6⟩
      · rw [if_pos (by omega)] at h9
        have H9 := Lib.hid h9
        clear HR HC h9
        go_wp2_with fail
        refine (HN.out _).mono ?_
        rintro _ w' ⟨rfl, rfl⟩
        cases s
        · go_wp2_with fail
          go_ret2
          exact ⟨retN (by rw [HsR.out, H9.out]; simp) rfl, y6⟩
        · go_wp2_with fail
          go_ret2
          exact ⟨retN (by rw [HsR.out, H9.out]; simp) rfl, y6⟩
    · obtain ⟨x, hx⟩ : ∃ x : Nat, xpo b = x := ⟨(xpo b).toNat, by omega⟩
      have h0 := sig_up hx
      have hbw := blen_mul_pow h0 x
      rw [clampS_mid hl (by omega), show (xpo b).toNat = x by omega, show (-(xpo b)).toNat = 0 by omega, Nat.pow_zero, Nat.div_one] at hp2 S2
      rw [clampS_mid hl (by omega), show (xpo b).toNat = x by omega] at S1
      have hok : nok b = true ∧ nrv b = sI (ng b) (sig b * 2 ^ x) ∧ blen (sig b * 2 ^ x) ≤ 62 ∧ sig b * 2 ^ x < 4611686018427387904 ∨ nok b = false ∧ nrv b = 0 ∧ 62 < blen (sig b * 2 ^ x) := by
        by_cases hn : (blen (sig b) : Int) + xpo b ≤ 62
        · have ho : nok b = true := by unfold nok; rw [decide_eq_true hf, decide_eq_true hn]; rfl
          refine .inl ⟨ho, by unfold nrv; rw [if_pos ho, fnv_up hf hx], by omega, (near_fits ho).1 x hx⟩
        · have ho : nok b = false := by unfold nok; rw [decide_eq_true hf, decide_eq_false hn]; rfl
          exact .inr ⟨ho, by unfold nrv; rw [ho]; rfl, by omega⟩
      have hW0 : 0 < sig b * 2 ^ x := Nat.mul_pos h0 (Nat.two_pow_pos x)
      clear p1 hbw h0
      generalize sig b * 2 ^ x = Wh at *
      have BT2 := Lib.hid (fun (w1 : World) (A : Option Addr) (n c : Nat) (t : Sl w1 A n c (words Wh)) => BT w1 A n c Wh t hp2)
      clear BT hp2
      generalize blen Wh = nb at *
      generalize blen (sig b) = nb2 at *
      generalize sig b = m at *
      generalize nrv b = RV at *
      generalize nok b = OK at *
      generalize xpo b = z at *
      generalize ng b = s at *
      have HS1 := Lib.hid S1
      have HS2 := Lib.hid S2
      have HN := Lib.hid N
      clear S1 S2 N hx
      go_enter Try.func12, Try.ntmps12
      go_wp2_with fail
      refine F.out.mono ?_
      rintro _ w' ⟨rfl, rfl⟩
      go_wp2_with fail
      refine P.out.mono ?_
      rintro _ w' ⟨rfl, rfl⟩
      go_wp2_with fail
      with_reducible refine HS1.out.mono ?_
      rintro _ w1 ⟨A1, n1, c1, rfl, t1, b1⟩
      have y1 := bb (below_alloc w _) b1
      go_wp2_with fail
      with_reducible refine (HS2.out _ _ _ _ t1).mono ?_
      rintro _ w2 ⟨A2, n2, c2, rfl, t2, b2⟩
      have y2 := bb y1 b2
      clear t1 b1 b2 y1
      go_wp2_with fail
      with_reducible refine (BT2.out _ _ _ _ t2).mono ?_
      rintro _ w' ⟨rfl, rfl⟩
      rcases hok with ⟨rfl, rfl, hnb, hWh⟩ | ⟨rfl, rfl, hnb⟩
      · obtain ⟨rfl, p, o, rfl, hcell⟩ := sl_onew t2 hW0 (by unfold W; omega)
        clear HS1 HS2 BT2 t2
        have hsR : sI s Wh = if s = true then -(Wh : Int) else Wh := rfl
        have HsR := Lib.hid hsR
        clear hsR
        go_wp2_with fail
        refine (HN.out _).mono ?_
        rintro _ w' ⟨rfl, rfl⟩
        cases s
        · go_wp2_with fail
          go_ret2
          exact ⟨retN (by rw [HsR.out]; simp) rfl, y2⟩
        · go_wp2_with fail
          go_ret2
          exact ⟨retN (by rw [HsR.out]; simp) rfl, y2⟩
      · have hd : decide (62 < (nb : Int)) = true := decide_eq_true (by omega)
        go_wp2_with fail
        go_ret2
        exact ⟨rfl, y2⟩
  · have hfin : fin b = false := decide_eq_false hf
    rw [hfin] at F
    have ho : nok b = false := by unfold nok; rw [decide_eq_false hf]; rfl
    have hv : nrv b = 0 := by unfold nrv; rw [ho]; rfl
    rw [ho, hv]
    go_enter Try.func12, Try.ntmps12
    go_wp2_with fail
    refine F.out.mono ?_
    rintro _ w' ⟨rfl, rfl⟩
    go_wp2_with fail
    go_ret2
    exact ⟨rfl, Below.refl _ _⟩

end Go.Proofs.Ytmoahgiklgicgaa
