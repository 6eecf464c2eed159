/-
  The exponential of a double by the document's steps, plainly: it has no sign, and it is a number or infinite unless its argument is none. Conditions: the argument is a word.
-/
import Derived.Test.YtmoahgiklgicgaaDoorRfSumAll
import Derived.Test.YtmoahgiklgicgaaDoorRatAddAll
namespace Go.Proofs.YtmoahgiklgicgaaDoor
set_option maxRecDepth 100000
open Go.RowKit
set_option linter.unusedVariables false
set_option linter.unusedSimpArgs false

theorem magR_low (p q : Nat) : magR p q (-1074) = mag p q := by
  unfold magR
  rw [up_zero (by omega), dn_zero (by omega), Nat.pow_zero, Nat.mul_one, Nat.mul_one]
theorem mul_mag {a b : Nat} (fa : fld a < 2047) (fb : fld b < 2047) : magR (sig a * sig b) 1 (xpo a + xpo b) = mag (vl a * vl b) OO := by
  have h1 := xpo_range fa
  have h2 := xpo_range fb
  rw [← magR_low]
  refine magR_eq (a := (xpo a + 1074).toNat + (xpo b + 1074).toNat) (b := K74) (by omega) OO_pos ?_ (by rw [K74_eq]; omega)
  rw [vl_eq, vl_eq, OO_eq, Nat.pow_add]
  grind
theorem div_mag {a b : Nat} (fa : fld a < 2047) (fb : fld b < 2047) (pb : 0 < sig b) : magR (sig a) (sig b) (xpo a - xpo b) = mag (vl a * OO) (vl b) := by
  have h1 := xpo_range fa
  have h2 := xpo_range fb
  rw [← magR_low]
  have hp : 0 < vl b := by rw [vl_eq]; exact Nat.mul_pos pb (Nat.two_pow_pos _)
  refine magR_eq (a := (xpo a + 1074).toNat + K74) (b := (xpo b + 1074).toNat) pb hp ?_ (by rw [K74_eq]; omega)
  rw [vl_eq, vl_eq, OO_eq, Nat.pow_add]
  grind
theorem fld_of {a A : Nat} (h : mant a ≤ A) (hA : A < INF) : fld a < 2047 := by
  have h1 := mant_fld a
  have h2 := INF_eq
  have h3 : mant a < INF := by omega
  rw [← h1.1, Nat.div_lt_iff_lt_mul B52_pos, ← h2]
  exact h3
theorem kd_of {a : Nat} (h : fld a < 2047) : kd a ≤ 2 := (kd_cases a).2.2 h
theorem sg_parts {s : Bool} {M : Nat} (h : M ≤ INF) : ng (sg s M) = s ∧ mant (sg s M) = M := by
  rw [INF_lit] at h
  unfold ng mant sg
  cases s
  · simp; omega
  · simp; omega
theorem fmul_fin {a b : Nat} (fa : fld a < 2047) (fb : fld b < 2047) : fmul a b = sg (ng a != ng b) (mag (vl a * vl b) OO) := by
  have k1 := kd_of fa
  have k2 := kd_of fb
  unfold fmul
  have h1 : ¬ (kd a = 4 ∨ kd b = 4 ∨ (kd a = 3 ∧ kd b = 0) ∨ (kd a = 0 ∧ kd b = 3)) := by omega
  have h2 : ¬ (kd a = 3 ∨ kd b = 3) := by omega
  rw [if_neg h1, if_neg h2, mul_mag fa fb]
theorem vl_zero {a : Nat} (h : kd a = 0) : vl a = 0 := by rw [vl_eq, sig_zero h, Nat.zero_mul]
theorem fdiv_fin {a b : Nat} (fa : fld a < 2047) (fb : fld b < 2047) (pb : 0 < vl b) : fdiv a b = sg (ng a != ng b) (mag (vl a * OO) (vl b)) := by
  have k1 := kd_of fa
  have k2 := kd_of fb
  have hb : kd b ≠ 0 := fun h => by rw [vl_zero h] at pb; omega
  unfold fdiv
  have h1 : ¬ (kd a = 4 ∨ kd b = 4 ∨ (kd a = 3 ∧ kd b = 3) ∨ (kd a = 0 ∧ kd b = 0)) := by omega
  have h2 : ¬ (kd a = 3 ∨ kd b = 0) := by omega
  rw [if_neg h1, if_neg h2]
  by_cases h0 : kd a = 0
  · rw [if_pos (.inl h0), vl_zero h0, Nat.zero_mul, mag_zero]
  · have h3 : ¬ (kd a = 0 ∨ kd b = 3) := by omega
    rw [if_neg h3, div_mag fa fb (sig_pos (by omega))]
/-- what a double says, with its sign -/
def iv (b : Nat) : Int := sI (ng b) (vl b)
theorem iv_abs (b : Nat) : (iv b).natAbs = vl b := sI_natAbs _ _
theorem fadd_fin {a b : Nat} (fa : fld a < 2047) (fb : fld b < 2047) : mant (fadd a b) = mag (iv a + iv b).natAbs 1 ∧ (0 < iv a + iv b → ng (fadd a b) = false) ∧ (iv a + iv b < 0 → ng (fadd a b) = true) ∧ (ng a = false → iv a + iv b = 0 → ng (fadd a b) = false) := by
  have k1 := kd_of fa
  have k2 := kd_of fb
  have e : fadd a b = fsumF a b := by
    unfold fadd
    have h1 : ¬ (kd a = 4 ∨ kd b = 4 ∨ (kd a = 3 ∧ kd b = 3 ∧ a ≠ b)) := by omega
    have h2 : ¬ kd a = 3 := by omega
    have h3 : ¬ kd b = 3 := by omega
    rw [if_neg h1, if_neg h2, if_neg h3]
  rw [e]
  unfold fsumF iv sI
  generalize vl a = p
  generalize vl b = q
  by_cases h : ng a = ng b
  · rw [if_pos h, ← h]
    obtain ⟨g1, g2⟩ := sg_parts (s := ng a) (mag_le (p + q) 1)
    rw [g1, g2]
    clear h
    cases ng a
    · rw [if_neg (by decide), if_neg (by decide)]
      exact ⟨by congr 1, fun _ => rfl, fun h => absurd h (by omega), fun _ _ => rfl⟩
    · rw [if_pos rfl, if_pos rfl]
      exact ⟨by congr 1; omega, fun h => absurd h (by omega), fun _ => rfl, fun h => by cases h⟩
  · rw [if_neg h]
    by_cases h2 : p = q
    · subst h2
      rw [if_pos rfl]
      have e0 : (if ng a = true then -(p : Int) else p) + (if ng b = true then -(p : Int) else p) = 0 := by
        revert h; cases ng a <;> cases ng b <;> simp <;> omega
      rw [e0]
      refine ⟨by rw [show (0 : Int).natAbs = 0 from rfl, mag_zero]; rfl, fun h => absurd h (by omega), fun h => absurd h (by omega), fun _ _ => by decide⟩
    · rw [if_neg h2]
      by_cases h3 : q < p
      · rw [if_pos h3]
        obtain ⟨g1, g2⟩ := sg_parts (s := ng a) (mag_le (p - q) 1)
        rw [g1, g2]
        revert h
        cases ng a <;> cases ng b <;> simp
        · exact ⟨by congr 1; omega, by omega⟩
        · exact ⟨by congr 1; omega, by omega⟩
      · rw [if_neg h3]
        obtain ⟨g1, g2⟩ := sg_parts (s := ng b) (mag_le (q - p) 1)
        rw [g1, g2]
        revert h
        cases ng a <;> cases ng b <;> simp
        · exact ⟨by congr 1; omega, by omega, by omega⟩
        · exact ⟨by congr 1; omega, by omega⟩
theorem flp_fld (b : Nat) : fld (flp b) = fld b := by unfold fld flp; omega
theorem flc_fin {b : Nat} (hb : b < 18446744073709551616) (fb : fld b < 2047) : flc b = flp b ∧ fld (flc b) < 2047 ∧ iv (flc b) = - iv b := by
  have k2 := kd_of fb
  have e : flc b = flp b := by unfold flc; rw [if_neg (by omega)]
  rw [e]
  refine ⟨rfl, by rw [flp_fld]; exact fb, ?_⟩
  unfold iv
  rw [flp_vl, flp_ng hb, sI_not]
theorem fsub_fin {a b : Nat} (hb : b < 18446744073709551616) (fa : fld a < 2047) (fb : fld b < 2047) : mant (fsub a b) = mag (iv a - iv b).natAbs 1 ∧ (0 < iv a - iv b → ng (fsub a b) = false) ∧ (iv a - iv b < 0 → ng (fsub a b) = true) ∧ (ng a = false → iv a - iv b = 0 → ng (fsub a b) = false) := by
  obtain ⟨_, f2, e2⟩ := flc_fin hb fb
  have := fadd_fin fa f2
  unfold fsub
  rw [e2, ← Int.sub_eq_add_neg] at this
  exact this
/-! ### bounds -/
theorem vl_le {a A : Nat} (h : mant a ≤ A) (hA : A < INF) : vl a ≤ fv A := fv_mono hA h
theorem le_mul {a b A B C : Nat} (ha : mant a ≤ A) (hb : mant b ≤ B) (hA : A < INF) (hB : B < INF) (hC : C < INF) (h : fv A * fv B ≤ fv C * OO) : ng (fmul a b) = (ng a != ng b) ∧ mant (fmul a b) ≤ C := by
  rw [fmul_fin (fld_of ha hA) (fld_of hb hB)]
  obtain ⟨g1, g2⟩ := sg_parts (s := (ng a != ng b)) (mag_le (vl a * vl b) OO)
  rw [g1, g2]
  exact ⟨rfl, mag_upto OO_pos hC (Nat.le_trans (Nat.mul_le_mul (vl_le ha hA) (vl_le hb hB)) h)⟩
theorem le_add {a b A B C : Nat} (ha : mant a ≤ A) (hb : mant b ≤ B) (hA : A < INF) (hB : B < INF) (hC : C < INF) (h : fv A + fv B ≤ fv C) : mant (fadd a b) ≤ C := by
  rw [(fadd_fin (fld_of ha hA) (fld_of hb hB)).1]
  refine mag_upto (by omega) hC ?_
  have h1 := vl_le ha hA
  have h2 := vl_le hb hB
  have h3 := iv_abs a
  have h4 := iv_abs b
  omega
theorem le_sub {a b A B C : Nat} (hb64 : b < 18446744073709551616) (ha : mant a ≤ A) (hb : mant b ≤ B) (hA : A < INF) (hB : B < INF) (hC : C < INF) (h : fv A + fv B ≤ fv C) : mant (fsub a b) ≤ C := by
  rw [(fsub_fin hb64 (fld_of ha hA) (fld_of hb hB)).1]
  refine mag_upto (by omega) hC ?_
  have h1 := vl_le ha hA
  have h2 := vl_le hb hB
  have h3 := iv_abs a
  have h4 := iv_abs b
  omega
theorem iv_pos {b : Nat} (h : ng b = false) : iv b = vl b := by unfold iv sI; rw [h]; rfl
theorem iv_neg {b : Nat} (h : ng b = true) : iv b = - (vl b : Int) := by unfold iv sI; rw [h]; rfl
/-- twice a normal double -/
theorem fv_double {c : Nat} (h : B52 ≤ c) : fv (c + B52) = 2 * fv c := by
  unfold fv
  have hB := B52_pos
  have h1 : (c + B52) / B52 = c / B52 + 1 := Nat.add_div_right _ hB
  have h2 : (c + B52) % B52 = c % B52 := Nat.add_mod_right _ _
  have h3 : 0 < c / B52 := Nat.div_pos h hB
  rw [h1, h2, if_neg (by omega), if_neg (by omega), show c / B52 + 1 - 1 = c / B52 - 1 + 1 by omega, Nat.pow_succ]
  grind
/-! ### the exponential's sum: each step leaves it without a sign, at most twice the term that it adds -/
@[irreducible] def HALF : Nat := 4602678819172646912
theorem HALF_lt : HALF < INF := by decide +kernel
theorem fv_HALF : fv HALF * 2 = OO := by decide +kernel
theorem exp_step {c c' p r : Nat} (h1 : B52 ≤ c') (h2 : c' ≤ c) (h3 : c + B52 < INF) (hc : ng c = false) (hm : mant c = c) (hp : ng p = false) (hp2 : mant p ≤ c' + B52) (hr : mant r ≤ HALF) :
    ng (fadd (fmul p r) c) = false ∧ mant (fadd (fmul p r) c) ≤ c + B52 := by
  have hq := le_mul (C := c') hp2 hr (by omega) HALF_lt (by omega) (by
    rw [fv_double h1]
    have := fv_HALF
    have e : 2 * fv c' * fv HALF = fv c' * (fv HALF * 2) := by grind
    rw [e, this]
    exact Nat.le_refl _)
  have hd := fv_double (show B52 ≤ c by omega)
  have hmo := fv_mono (show c < INF by omega) h2
  refine ⟨?_, le_add hq.2 (Nat.le_of_eq hm) (by omega) (by omega) h3 (by omega)⟩
  have f1 := fld_of hq.2 (show c' < INF by omega)
  have f2 := fld_of (Nat.le_of_eq hm) (show c < INF by omega)
  rw [fadd_comm]
  obtain ⟨_, g1, _, g3⟩ := fadd_fin f2 f1
  have e1 : iv c = vl c := iv_pos hc
  have e2 : vl c = fv c := by unfold vl; rw [hm]
  have e3 := vl_le hq.2 (show c' < INF by omega)
  have e4 := iv_abs (fmul p r)
  rcases Int.lt_or_le 0 (iv c + iv (fmul p r)) with hl | hl
  · exact g1 hl
  · exact g3 hc (by omega)

end Go.Proofs.YtmoahgiklgicgaaDoor

namespace Go.Proofs.YtmoahgiklgicgaaDoor
set_option maxRecDepth 100000
open Go.RowKit
set_option linter.unusedVariables false
set_option linter.unusedSimpArgs false

@[irreducible] def PP : Nat := 4609176140021203710
@[irreducible] def LL : Nat := 4604418534311723008
@[irreducible] def ll : Nat := 4461442080421002358
/-! ### the rest after the multiple of the logarithm of 2 is taken away is at most a half -/
@[irreducible] def HH : Nat := 2 ^ (K74 - 53)
theorem HH_pos : 0 < HH := by unfold HH; exact Nat.two_pow_pos _
theorem OO_HH : OO = 9007199254740992 * HH := by decide +kernel
theorem fv_PP : fv PP = 12994641697113596 * HH := by decide +kernel
theorem fv_LL : fv LL = 6243314766446592 * HH := by decide +kernel
@[irreducible] def W746 : Nat := 4649773101213548544
@[irreducible] def W1077 : Nat := 4652451511538810880
@[irreducible] def W716 : Nat := 4601552919265804288
@[irreducible] def WTINY : Nat := 4517110426252607488
theorem fv_746 : fv W746 = 746 * OO := by decide +kernel
theorem fv_1077 : fv W1077 = 1077 * OO := by decide +kernel
theorem fv_716 : fv W716 = 3940649673949184 * HH := by decide +kernel
theorem PP_lt : PP < INF := by decide +kernel
theorem LL_lt : LL < INF := by decide +kernel
theorem ll_lt : ll < INF := by decide +kernel
theorem W746_lt : W746 < INF := by decide +kernel
theorem W1077_lt : W1077 < INF := by decide +kernel
theorem W716_lt : W716 < INF := by decide +kernel
theorem WTINY_lt : WTINY < INF := by decide +kernel
theorem PP_parts : ng PP = false ∧ mant PP = PP ∧ PP < 18446744073709551616 := by decide +kernel
theorem LL_parts : ng LL = false ∧ mant LL = LL ∧ LL < 18446744073709551616 := by decide +kernel
theorem ll_parts : ng ll = false ∧ mant ll = ll ∧ ll < 18446744073709551616 := by decide +kernel
theorem tiny_ok : fv W1077 * fv ll ≤ fv WTINY * OO := by decide +kernel
theorem half_ok : fv W716 + fv WTINY ≤ fv HALF := by decide +kernel
/-- how far a rounded number is off, below 2^11 -/
theorem mag_err {p d : Nat} (hd : 0 < d) (hb : p / d < 2048 * OO) (hI : mag p d < INF) : 2 * (fv (mag p d) * d) ≤ 2 * p + d * (2048 * HH) ∧ 2 * p ≤ 2 * (fv (mag p d) * d) + d * (2048 * HH) := by
  have hK := K74_eq
  have hu : ulp p d ≤ K74 - 53 + 11 := by
    unfold ulp
    have : blen (p / d) ≤ K74 + 11 := blen_le (by rw [Nat.pow_add, ← OO_eq]; omega)
    omega
  have hp : 2 ^ ulp p d ≤ 2048 * HH := by
    have := Nat.pow_le_pow_right (n := 2) (by omega) hu
    rw [Nat.pow_add] at this
    unfold HH
    omega
  rw [fv_mag p hd hI]
  obtain ⟨a1, a2, _, _⟩ := rdiv_spec p (d := d * 2 ^ ulp p d) (Nat.mul_pos hd (Nat.two_pow_pos _))
  have hm := Nat.mul_le_mul_left d hp
  generalize rdiv p (d * 2 ^ ulp p d) = R at *
  have e1 : (2 * R + 1) * (d * 2 ^ ulp p d) = 2 * (R * 2 ^ ulp p d * d) + d * 2 ^ ulp p d := by grind
  have e2 : 2 * R * (d * 2 ^ ulp p d) = 2 * (R * 2 ^ ulp p d * d) := by grind
  rw [e1] at a1
  rw [e2] at a2
  omega
theorem rest_alg {a M y h : Nat} (m1 : 18014398509481984 * M ≤ 25989283394227192 * a + 18446744073709551616 * h) (m2 : 25989283394227192 * a ≤ 18014398509481984 * M + 18446744073709551616 * h)
    (n1 : 2 * M ≤ 18014398509481984 * y + 9007199254740992 * h) (n2 : 18014398509481984 * y ≤ 2 * M + 9007199254740992 * h) (hy : y ≤ 1077 * h) :
    a ≤ 6243314766446592 * y + 3940649673949184 * h ∧ 6243314766446592 * y ≤ a + 3940649673949184 * h := by omega
theorem fint_fin {k : Int} (hk : k.natAbs ≤ 1077) : mant (fint k) ≤ W1077 ∧ vl (fint k) = k.natAbs * OO ∧ ng (fint k) = decide (k < 0) := by
  have hK := K74_eq
  have e : magR k.natAbs 1 0 = mag (k.natAbs * OO) 1 := by
    rw [OO_eq]
    exact (magR_at (m := k.natAbs) (e := 0) (s := K74) (by rw [hK]; rfl)).1
  have hx := ex_any (x := k.natAbs) (s := K74) (by rw [B52_eq]; omega) (by rw [hK]; omega)
  rw [← OO_eq] at hx
  obtain ⟨v1, v2⟩ := ex_val hx
  unfold fint
  rw [e]
  obtain ⟨g1, g2⟩ := sg_parts (s := decide (k < 0)) (mag_le (k.natAbs * OO) 1)
  refine ⟨?_, ?_, g1⟩
  · rw [g2]
    refine mag_upto (by omega) W1077_lt ?_
    rw [fv_1077, Nat.mul_one]
    exact Nat.mul_le_mul_right _ hk
  · unfold vl; rw [g2]; exact v1
/-- a small multiple of L is a double, just so -/
theorem fmul_LL {k : Int} (hk : k.natAbs ≤ 1077) : vl (fmul (fint k) LL) = k.natAbs * fv LL ∧ ng (fmul (fint k) LL) = decide (k < 0) ∧ fld (fmul (fint k) LL) < 2047 := by
  obtain ⟨h1, h2, h3⟩ := fint_fin hk
  obtain ⟨l1, l2, _⟩ := LL_parts
  have hv : vl LL = fv LL := by unfold vl; rw [l2]
  rw [fmul_fin (fld_of h1 W1077_lt) (fld_of (Nat.le_of_eq l2) LL_lt), h2, h3, l1, hv, bne_false']
  have e : mag (k.natAbs * OO * fv LL) OO = mag (k.natAbs * fv LL) 1 := by
    have := mag_scale (k.natAbs * fv LL) 1 OO_pos
    rw [Nat.one_mul] at this
    rw [← this]
    congr 1
    grind
  rw [e]
  have hx : Ex (k.natAbs * fv LL) 1 := by
    have e2 : k.natAbs * fv LL = k.natAbs * 2977044471 * 2 ^ (K74 - 53 + 21) := by
      rw [fv_LL, Nat.pow_add]
      unfold HH
      grind
    rw [e2]
    have hK := K74_eq
    exact ex_any (by rw [B52_eq]; omega) (by rw [hK]; omega)
  obtain ⟨v1, v2⟩ := ex_val hx
  obtain ⟨g1, g2⟩ := sg_parts (s := decide (k < 0)) (mag_le (k.natAbs * fv LL) 1)
  refine ⟨?_, g1, ?_⟩
  · unfold vl; rw [g2]; exact v1
  · exact fld_of (A := mag (k.natAbs * fv LL) 1) (Nat.le_of_eq g2) v2
theorem sI_dec {s : Bool} {n : Nat} (m : Nat) : sI (decide (sI s n < 0)) (n * m) = sI s (n * m) := by
  unfold sI
  cases s
  · simp; omega
  · rcases Nat.eq_zero_or_pos n with h | h
    · subst h; simp
    · have : decide (-(n : Int) < 0) = true := decide_eq_true (by omega)
      simp [h]
def expR (x : Nat) : Nat := fsub (fsub x (fmul (fint (fnv (fmul x PP))) LL)) (fmul (fint (fnv (fmul x PP))) ll)
theorem fsub_lt {a b : Nat} (ha : a < 18446744073709551616) : fsub a b < 18446744073709551616 := fadd_lt ha (flc_lt b)
theorem expR_half {x : Nat} (hx64 : x < 18446744073709551616) (hx : mant x ≤ W746) : mant (expR x) ≤ HALF ∧ (fnv (fmul x PP)).natAbs ≤ 1077 ∧ fld (fmul x PP) < 2047 := by
  obtain ⟨p1, p2, p3⟩ := PP_parts
  have fx := fld_of hx W746_lt
  have fP := fld_of (Nat.le_of_eq p2) PP_lt
  have hvP : vl PP = fv PP := by unfold vl; rw [p2]
  have hvx := vl_le hx W746_lt
  rw [fv_746] at hvx
  have hO := OO_pos
  have hH := HH_pos
  have e1 := OO_HH
  have e2 := fv_PP
  have hb0 : vl x * fv PP ≤ 746 * OO * fv PP := Nat.mul_le_mul_right _ hvx
  have hb : vl x * fv PP ≤ fv W1077 * OO := by
    rw [fv_1077]
    refine Nat.le_trans hb0 ?_
    have e : 746 * OO * fv PP = 746 * fv PP * OO := by grind
    rw [e]
    refine Nat.mul_le_mul_right _ ?_
    rw [e2, e1]
    omega
  have hM1 : mag (vl x * fv PP) OO ≤ W1077 := mag_upto hO W1077_lt hb
  have hMI : mag (vl x * fv PP) OO < INF := Nat.lt_of_le_of_lt hM1 W1077_lt
  have hq : vl x * fv PP / OO < 2048 * OO := by
    rw [fv_1077] at hb
    rw [Nat.div_lt_iff_lt_mul hO]
    have : 1077 * OO * OO < 2048 * OO * OO := by
      rw [Nat.mul_assoc, Nat.mul_assoc]
      have := Nat.mul_pos hO hO
      omega
    omega
  obtain ⟨r1, r2⟩ := mag_err hO hq hMI
  have hv : fmul x PP = sg (ng x) (mag (vl x * fv PP) OO) := by rw [fmul_fin fx fP, p1, bne_false', hvP]
  obtain ⟨g1, g2⟩ := sg_parts (s := ng x) (mag_le (vl x * fv PP) OO)
  have hvm : vl (fmul x PP) = fv (mag (vl x * fv PP) OO) := by rw [show vl (fmul x PP) = fv (mant (fmul x PP)) from rfl, hv, g2]
  have hfv : fld (fmul x PP) < 2047 := fld_of (A := W1077) (by rw [hv, g2]; exact hM1) W1077_lt
  have hng : ng (fmul x PP) = ng x := by rw [hv, g1]
  have hMle : fv (mag (vl x * fv PP) OO) ≤ 1077 * OO := by rw [← fv_1077]; exact fv_mono W1077_lt hM1
  -- the nearest integer
  obtain ⟨n1, n2, _, _⟩ := rdiv_spec (fv (mag (vl x * fv PP) OO)) hO
  have hKle : rdiv (fv (mag (vl x * fv PP) OO)) OO ≤ 1077 := by
    have := rdiv_mono1 hO hMle
    rw [rdiv_exact 1077 hO] at this
    exact this
  have hk : fnv (fmul x PP) = sI (ng x) (rdiv (fv (mag (vl x * fv PP) OO)) OO) := by unfold fnv; rw [hng, hvm]
  generalize fv (mag (vl x * fv PP) OO) = M at *
  generalize rdiv M OO = K at *
  have hkabs : (fnv (fmul x PP)).natAbs = K := by rw [hk, sI_natAbs]
  -- all over HH
  have hcore : vl x ≤ 6243314766446592 * (K * HH) + 3940649673949184 * HH ∧ 6243314766446592 * (K * HH) ≤ vl x + 3940649673949184 * HH := by
    refine rest_alg (M := M) ?_ ?_ ?_ ?_ (Nat.mul_le_mul_right _ hKle)
    · refine Nat.le_of_mul_le_mul_right ?_ hH
      rw [e1, e2] at r1
      have t1 : 18014398509481984 * M * HH = 2 * (M * (9007199254740992 * HH)) := by grind
      have t2 : (25989283394227192 * vl x + 18446744073709551616 * HH) * HH = 2 * (vl x * (12994641697113596 * HH)) + 9007199254740992 * HH * (2048 * HH) := by grind
      rw [t1, t2]
      exact r1
    · refine Nat.le_of_mul_le_mul_right ?_ hH
      rw [e1, e2] at r2
      have t1 : (18014398509481984 * M + 18446744073709551616 * HH) * HH = 2 * (M * (9007199254740992 * HH)) + 9007199254740992 * HH * (2048 * HH) := by grind
      have t2 : 25989283394227192 * vl x * HH = 2 * (vl x * (12994641697113596 * HH)) := by grind
      rw [t1, t2]
      exact r2
    · rw [e1] at n1
      have t1 : (2 * K + 1) * (9007199254740992 * HH) = 18014398509481984 * (K * HH) + 9007199254740992 * HH := by grind
      rw [t1] at n1
      exact n1
    · rw [e1] at n2
      have t1 : 2 * K * (9007199254740992 * HH) = 18014398509481984 * (K * HH) := by grind
      rw [t1] at n2
      exact n2
  refine ⟨?_, by rw [hkabs]; exact hKle, hfv⟩
  unfold expR
  have hk1077 : (fnv (fmul x PP)).natAbs ≤ 1077 := by rw [hkabs]; exact hKle
  obtain ⟨a1, a2, a3⟩ := fmul_LL hk1077
  have hiv : iv (fmul (fint (fnv (fmul x PP))) LL) = sI (ng x) (K * fv LL) := by
    unfold iv
    rw [a1, a2, hkabs, hk]
    exact sI_dec _
  have hd1 : mant (fsub x (fmul (fint (fnv (fmul x PP))) LL)) ≤ W716 := by
    rw [(fsub_fin (fmul_lt _ _) fx a3).1, hiv]
    refine mag_upto (by omega) W716_lt ?_
    unfold iv
    rw [abs_same, fv_716, fv_LL]
    unfold dist
    have : K * (6243314766446592 * HH) = 6243314766446592 * (K * HH) := by grind
    rw [this]
    omega
  obtain ⟨b1, _, _⟩ := fint_fin hk1077
  obtain ⟨l1, l2, _⟩ := ll_parts
  have hnl := le_mul b1 (Nat.le_of_eq l2) W1077_lt ll_lt WTINY_lt tiny_ok
  exact le_sub (fmul_lt _ _) hd1 hnl.2 W716_lt WTINY_lt HALF_lt half_ok

/-! ### the whole -/
/-- 1 divided by the factorials of 12, 11, .., 0 -/
def expC : List Nat := [4477122120089393304, 4493156764026750180, 4508805057796939612, 4523617214285662004, 4537941361671905306, 4551452160554016794, 4564047942368979991, 4575957461383581969, 4586165620538955093, 4595172819793696085, 4602678819172646912, 4607182418800017408, 4607182418800017408]
def expP (r : Nat) : Nat := expC.foldl (fun p c => fadd (fmul p r) c) 4460272573143870729
theorem exp_fold {r : Nat} (hr : mant r ≤ HALF) : ∀ (cs : List Nat) (c' p : Nat), B52 ≤ c' → (∀ c ∈ cs, B52 ≤ c ∧ c + B52 < INF ∧ ng c = false ∧ mant c = c) → List.Pairwise (· ≤ ·) (c' :: cs) → ng p = false → mant p ≤ c' + B52 → c' + B52 < INF →
    ng (cs.foldl (fun p c => fadd (fmul p r) c) p) = false ∧ fld (cs.foldl (fun p c => fadd (fmul p r) c) p) < 2047 := by
  intro cs
  induction cs with
  | nil => intro c' p _ _ _ hp hm hI; exact ⟨hp, fld_of hm hI⟩
  | cons c cs ih =>
    intro c' p hc' hall hpw hp hm hI
    obtain ⟨h1, h2, h3, h4⟩ := hall c (by simp)
    rw [List.pairwise_cons] at hpw
    have hcc := hpw.1 c (by simp)
    obtain ⟨s1, s2⟩ := exp_step hc' hcc h2 h3 h4 hp hm hr
    exact ih c _ h1 (fun x hx => hall x (by simp [hx])) hpw.2 s1 s2 h2
theorem expP_ok {r : Nat} (hr : mant r ≤ HALF) : ng (expP r) = false ∧ fld (expP r) < 2047 := by
  refine exp_fold hr expC 4460272573143870729 4460272573143870729 (by decide +kernel) ?_ (by decide +kernel) (by decide +kernel) (by decide +kernel) (by decide +kernel)
  decide +kernel
def fexp (x : Nat) : Nat := if kd x = 4 then NAN else if fless (fint 710) x = true then INF else if fless x (fint (-746)) = true then 0 else fscale (expP (expR x)) (fnv (fmul x PP))
theorem int_710 : fint 710 = 4649456441864749056 := by decide +kernel
theorem int_746 : fint (-746) = 13873145138068324352 := by decide +kernel
/-- an argument that is not too great and not too small -/
theorem exp_range {x : Nat} (hx : x < 18446744073709551616) (h4 : kd x ≠ 4) (h1 : fless (fint 710) x ≠ true) (h2 : fless x (fint (-746)) ≠ true) : mant x ≤ W746 := by
  rw [int_710] at h1
  rw [int_746] at h2
  unfold fless at h1 h2
  rw [show kd 4649456441864749056 = 2 by decide +kernel, show ng 4649456441864749056 = false by decide +kernel] at h1
  rw [show kd 13873145138068324352 = 2 by decide +kernel, show ng 13873145138068324352 = true by decide +kernel] at h2
  have hW : W746 = 4649773101213548544 := by unfold W746; rfl
  rw [hW]
  have c1 : ¬ (2 = 4 ∨ kd x = 4) := by omega
  have c2 : ¬ (kd x = 4 ∨ 2 = 4) := by omega
  rw [if_neg c1] at h1
  rw [if_neg c2] at h2
  cases hn : ng x
  · rw [hn] at h1
    simp at h1
    unfold ng at hn
    simp at hn
    unfold mant
    omega
  · rw [hn] at h2
    simp at h2
    unfold ng at hn
    simp at hn
    unfold mant
    omega
theorem fexp_sign {x : Nat} (hx : x < 18446744073709551616) : ng (fexp x) = false ∧ (kd (fexp x) = 4 ↔ kd x = 4) := by
  unfold fexp
  by_cases h4 : kd x = 4
  · rw [if_pos h4]; exact ⟨by decide +kernel, fun _ => h4, fun _ => kd_nan⟩
  · rw [if_neg h4]
    by_cases h1 : fless (fint 710) x = true
    · rw [if_pos h1]
      exact ⟨inf_ng, fun h => by rw [inf_kd] at h; omega, fun h => absurd h h4⟩
    · rw [if_neg h1]
      by_cases h2 : fless x (fint (-746)) = true
      · rw [if_pos h2]
        exact ⟨by decide +kernel, fun h => by rw [show kd 0 = 0 by decide +kernel] at h; omega, fun h => absurd h h4⟩
      · rw [if_neg h2]
        obtain ⟨r1, _, _⟩ := expR_half hx (exp_range hx h4 h1 h2)
        obtain ⟨p1, p2⟩ := expP_ok r1
        unfold fscale
        rw [if_pos p2, p1]
        refine ⟨(sg_parts (magR_leI _ _ _)).1, fun h => absurd h (sg_kd (magR_leI _ _ _)), fun h => absurd h h4⟩

end Go.Proofs.YtmoahgiklgicgaaDoor
