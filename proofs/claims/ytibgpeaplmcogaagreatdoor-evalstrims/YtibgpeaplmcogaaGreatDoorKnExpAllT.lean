/-
  What the document's Near of layer 13 returns for any word. Conditions: the word is below 2^64.
-/
import Derived.Test.YtibgpeaplmcogaaGreatDoorFpMulAllT
import Derived.Test.YtibgpeaplmcogaaGreatDoorFbRunAllT
import Derived.Test.YtibgpeaplmcogaaGreatDoorFpMathAllT
import Derived.Test.YtibgpeaplmcogaaGreatDoorRefShiftAllT
namespace Go.Proofs.YtibgpeaplmcogaaGreatDoor
set_option maxRecDepth 100000
open Go.RowKit
set_option linter.unusedVariables false
set_option linter.unusedSimpArgs false

@[irreducible] def PP : Nat := 4609176140021203710
@[irreducible] def LL : Nat := 4604418534311723008
@[irreducible] def ll : Nat := 4461442080421002358
/-! ### the rest after the multiple of the logarithm of 2 is taken away is at most a half -/
@[irreducible] def HH : Nat := 2 ^ (K74 - 53)
theorem HH_pos : 0 < HH := by unfold HH; exact Nat.two_pow_pos _
theorem OO_HH : OO = 9007199254740992 * HH := by decide +kernel
theorem fv_PP : fv PP = 12994641697113596 * HH := by decide +kernel
theorem fv_LL : fv LL = 6243314766446592 * HH := by decide +kernel
@[irreducible] def W746 : Nat := 4649773101213548544
@[irreducible] def W1077 : Nat := 4652451511538810880
@[irreducible] def W716 : Nat := 4601552919265804288
@[irreducible] def WTINY : Nat := 4517110426252607488
theorem fv_746 : fv W746 = 746 * OO := by decide +kernel
theorem fv_1077 : fv W1077 = 1077 * OO := by decide +kernel
theorem fv_716 : fv W716 = 3940649673949184 * HH := by decide +kernel
theorem PP_lt : PP < INF := by decide +kernel
theorem LL_lt : LL < INF := by decide +kernel
theorem ll_lt : ll < INF := by decide +kernel
theorem W746_lt : W746 < INF := by decide +kernel
theorem W1077_lt : W1077 < INF := by decide +kernel
theorem W716_lt : W716 < INF := by decide +kernel
theorem WTINY_lt : WTINY < INF := by decide +kernel
theorem PP_parts : ng PP = false ∧ mant PP = PP ∧ PP < 18446744073709551616 := by decide +kernel
theorem LL_parts : ng LL = false ∧ mant LL = LL ∧ LL < 18446744073709551616 := by decide +kernel
theorem ll_parts : ng ll = false ∧ mant ll = ll ∧ ll < 18446744073709551616 := by decide +kernel
theorem tiny_ok : fv W1077 * fv ll ≤ fv WTINY * OO := by decide +kernel
theorem half_ok : fv W716 + fv WTINY ≤ fv HALF := by decide +kernel
/-- how far a rounded number is off, below 2^11 -/
theorem mag_err {p d : Nat} (hd : 0 < d) (hb : p / d < 2048 * OO) (hI : mag p d < INF) : 2 * (fv (mag p d) * d) ≤ 2 * p + d * (2048 * HH) ∧ 2 * p ≤ 2 * (fv (mag p d) * d) + d * (2048 * HH) := by
  have hK := K74_eq
  have hu : ulp p d ≤ K74 - 53 + 11 := by
    unfold ulp
    have : blen (p / d) ≤ K74 + 11 := blen_le (by rw [Nat.pow_add, ← OO_eq]; omega)
    omega
  have hp : 2 ^ ulp p d ≤ 2048 * HH := by
    have := Nat.pow_le_pow_right (n := 2) (by omega) hu
    rw [Nat.pow_add] at this
    unfold HH
    omega
  rw [fv_mag p hd hI]
  obtain ⟨a1, a2, _, _⟩ := rdiv_spec p (d := d * 2 ^ ulp p d) (Nat.mul_pos hd (Nat.two_pow_pos _))
  have hm := Nat.mul_le_mul_left d hp
  generalize rdiv p (d * 2 ^ ulp p d) = R at *
  have e1 : (2 * R + 1) * (d * 2 ^ ulp p d) = 2 * (R * 2 ^ ulp p d * d) + d * 2 ^ ulp p d := by grind
  have e2 : 2 * R * (d * 2 ^ ulp p d) = 2 * (R * 2 ^ ulp p d * d) := by grind
  rw [e1] at a1
  rw [e2] at a2
  omega
theorem rest_alg {a M y h : Nat} (m1 : 18014398509481984 * M ≤ 25989283394227192 * a + 18446744073709551616 * h) (m2 : 25989283394227192 * a ≤ 18014398509481984 * M + 18446744073709551616 * h)
    (n1 : 2 * M ≤ 18014398509481984 * y + 9007199254740992 * h) (n2 : 18014398509481984 * y ≤ 2 * M + 9007199254740992 * h) (hy : y ≤ 1077 * h) :
    a ≤ 6243314766446592 * y + 3940649673949184 * h ∧ 6243314766446592 * y ≤ a + 3940649673949184 * h := by omega
theorem fint_fin {k : Int} (hk : k.natAbs ≤ 1077) : mant (fint k) ≤ W1077 ∧ vl (fint k) = k.natAbs * OO ∧ ng (fint k) = decide (k < 0) := by
  have hK := K74_eq
  have e : magR k.natAbs 1 0 = mag (k.natAbs * OO) 1 := by
    rw [OO_eq]
    exact (magR_at (m := k.natAbs) (e := 0) (s := K74) (by rw [hK]; rfl)).1
  have hx := ex_any (x := k.natAbs) (s := K74) (by rw [B52_eq]; omega) (by rw [hK]; omega)
  rw [← OO_eq] at hx
  obtain ⟨v1, v2⟩ := ex_val hx
  unfold fint
  rw [e]
  obtain ⟨g1, g2⟩ := sg_parts (s := decide (k < 0)) (mag_le (k.natAbs * OO) 1)
  refine ⟨?_, ?_, g1⟩
  · rw [g2]
    refine mag_upto (by omega) W1077_lt ?_
    rw [fv_1077, Nat.mul_one]
    exact Nat.mul_le_mul_right _ hk
  · unfold vl; rw [g2]; exact v1
/-- a small multiple of L is a double, just so -/
theorem fmul_LL {k : Int} (hk : k.natAbs ≤ 1077) : vl (fmul (fint k) LL) = k.natAbs * fv LL ∧ ng (fmul (fint k) LL) = decide (k < 0) ∧ fld (fmul (fint k) LL) < 2047 := by
  obtain ⟨h1, h2, h3⟩ := fint_fin hk
  obtain ⟨l1, l2, _⟩ := LL_parts
  have hv : vl LL = fv LL := by unfold vl; rw [l2]
  rw [fmul_fin (fld_of h1 W1077_lt) (fld_of (Nat.le_of_eq l2) LL_lt), h2, h3, l1, hv, bne_false']
  have e : mag (k.natAbs * OO * fv LL) OO = mag (k.natAbs * fv LL) 1 := by
    have := mag_scale (k.natAbs * fv LL) 1 OO_pos
    rw [Nat.one_mul] at this
    rw [← this]
    congr 1
    grind
  rw [e]
  have hx : Ex (k.natAbs * fv LL) 1 := by
    have e2 : k.natAbs * fv LL = k.natAbs * 2977044471 * 2 ^ (K74 - 53 + 21) := by
      rw [fv_LL, Nat.pow_add]
      unfold HH
      grind
    rw [e2]
    have hK := K74_eq
    exact ex_any (by rw [B52_eq]; omega) (by rw [hK]; omega)
  obtain ⟨v1, v2⟩ := ex_val hx
  obtain ⟨g1, g2⟩ := sg_parts (s := decide (k < 0)) (mag_le (k.natAbs * fv LL) 1)
  refine ⟨?_, g1, ?_⟩
  · unfold vl; rw [g2]; exact v1
  · exact fld_of (A := mag (k.natAbs * fv LL) 1) (Nat.le_of_eq g2) v2
theorem sI_dec {s : Bool} {n : Nat} (m : Nat) : sI (decide (sI s n < 0)) (n * m) = sI s (n * m) := by
  unfold sI
  cases s
  · simp; omega
  · rcases Nat.eq_zero_or_pos n with h | h
    · subst h; simp
    · have : decide (-(n : Int) < 0) = true := decide_eq_true (by omega)
      simp [h]
def expR (x : Nat) : Nat := fsub (fsub x (fmul (fint (fnv (fmul x PP))) LL)) (fmul (fint (fnv (fmul x PP))) ll)
theorem fsub_lt {a b : Nat} (ha : a < 18446744073709551616) : fsub a b < 18446744073709551616 := fadd_lt ha (flc_lt b)
theorem expR_half {x : Nat} (hx64 : x < 18446744073709551616) (hx : mant x ≤ W746) : mant (expR x) ≤ HALF ∧ (fnv (fmul x PP)).natAbs ≤ 1077 ∧ fld (fmul x PP) < 2047 := by
  obtain ⟨p1, p2, p3⟩ := PP_parts
  have fx := fld_of hx W746_lt
  have fP := fld_of (Nat.le_of_eq p2) PP_lt
  have hvP : vl PP = fv PP := by unfold vl; rw [p2]
  have hvx := vl_le hx W746_lt
  rw [fv_746] at hvx
  have hO := OO_pos
  have hH := HH_pos
  have e1 := OO_HH
  have e2 := fv_PP
  have hb0 : vl x * fv PP ≤ 746 * OO * fv PP := Nat.mul_le_mul_right _ hvx
  have hb : vl x * fv PP ≤ fv W1077 * OO := by
    rw [fv_1077]
    refine Nat.le_trans hb0 ?_
    have e : 746 * OO * fv PP = 746 * fv PP * OO := by grind
    rw [e]
    refine Nat.mul_le_mul_right _ ?_
    rw [e2, e1]
    omega
  have hM1 : mag (vl x * fv PP) OO ≤ W1077 := mag_upto hO W1077_lt hb
  have hMI : mag (vl x * fv PP) OO < INF := Nat.lt_of_le_of_lt hM1 W1077_lt
  have hq : vl x * fv PP / OO < 2048 * OO := by
    rw [fv_1077] at hb
    rw [Nat.div_lt_iff_lt_mul hO]
    have : 1077 * OO * OO < 2048 * OO * OO := by
      rw [Nat.mul_assoc, Nat.mul_assoc]
      have := Nat.mul_pos hO hO
      omega
    omega
  obtain ⟨r1, r2⟩ := mag_err hO hq hMI
  have hv : fmul x PP = sg (ng x) (mag (vl x * fv PP) OO) := by rw [fmul_fin fx fP, p1, bne_false', hvP]
  obtain ⟨g1, g2⟩ := sg_parts (s := ng x) (mag_le (vl x * fv PP) OO)
  have hvm : vl (fmul x PP) = fv (mag (vl x * fv PP) OO) := by rw [show vl (fmul x PP) = fv (mant (fmul x PP)) from rfl, hv, g2]
  have hfv : fld (fmul x PP) < 2047 := fld_of (A := W1077) (by rw [hv, g2]; exact hM1) W1077_lt
  have hng : ng (fmul x PP) = ng x := by rw [hv, g1]
  have hMle : fv (mag (vl x * fv PP) OO) ≤ 1077 * OO := by rw [← fv_1077]; exact fv_mono W1077_lt hM1
  -- the nearest integer
  obtain ⟨n1, n2, _, _⟩ := rdiv_spec (fv (mag (vl x * fv PP) OO)) hO
  have hKle : rdiv (fv (mag (vl x * fv PP) OO)) OO ≤ 1077 := by
    have := rdiv_mono1 hO hMle
    rw [rdiv_exact 1077 hO] at this
    exact this
  have hk : fnv (fmul x PP) = sI (ng x) (rdiv (fv (mag (vl x * fv PP) OO)) OO) := by unfold fnv; rw [hng, hvm]
  generalize fv (mag (vl x * fv PP) OO) = M at *
  generalize rdiv M OO = K at *
  have hkabs : (fnv (fmul x PP)).natAbs = K := by rw [hk, sI_natAbs]
  -- all over HH
  have hcore : vl x ≤ 6243314766446592 * (K * HH) + 3940649673949184 * HH ∧ 6243314766446592 * (K * HH) ≤ vl x + 3940649673949184 * HH := by
    refine rest_alg (M := M) ?_ ?_ ?_ ?_ (Nat.mul_le_mul_right _ hKle)
    · refine Nat.le_of_mul_le_mul_right ?_ hH
      rw [e1, e2] at r1
      have t1 : 18014398509481984 * M * HH = 2 * (M * (9007199254740992 * HH)) := by grind
      have t2 : (25989283394227192 * vl x + 18446744073709551616 * HH) * HH = 2 * (vl x * (12994641697113596 * HH)) + 9007199254740992 * HH * (2048 * HH) := by grind
      rw [t1, t2]
      exact r1
    · refine Nat.le_of_mul_le_mul_right ?_ hH
      rw [e1, e2] at r2
      have t1 : (18014398509481984 * M + 18446744073709551616 * HH) * HH = 2 * (M * (9007199254740992 * HH)) + 9007199254740992 * HH * (2048 * HH) := by grind
      have t2 : 25989283394227192 * vl x * HH = 2 * (vl x * (12994641697113596 * HH)) := by grind
      rw [t1, t2]
      exact r2
    · rw [e1] at n1
      have t1 : (2 * K + 1) * (9007199254740992 * HH) = 18014398509481984 * (K * HH) + 9007199254740992 * HH := by grind
      rw [t1] at n1
      exact n1
    · rw [e1] at n2
      have t1 : 2 * K * (9007199254740992 * HH) = 18014398509481984 * (K * HH) := by grind
      rw [t1] at n2
      exact n2
  refine ⟨?_, by rw [hkabs]; exact hKle, hfv⟩
  unfold expR
  have hk1077 : (fnv (fmul x PP)).natAbs ≤ 1077 := by rw [hkabs]; exact hKle
  obtain ⟨a1, a2, a3⟩ := fmul_LL hk1077
  have hiv : iv (fmul (fint (fnv (fmul x PP))) LL) = sI (ng x) (K * fv LL) := by
    unfold iv
    rw [a1, a2, hkabs, hk]
    exact sI_dec _
  have hd1 : mant (fsub x (fmul (fint (fnv (fmul x PP))) LL)) ≤ W716 := by
    rw [(fsub_fin (fmul_lt _ _) fx a3).1, hiv]
    refine mag_upto (by omega) W716_lt ?_
    unfold iv
    rw [abs_same, fv_716, fv_LL]
    unfold dist
    have : K * (6243314766446592 * HH) = 6243314766446592 * (K * HH) := by grind
    rw [this]
    omega
  obtain ⟨b1, _, _⟩ := fint_fin hk1077
  obtain ⟨l1, l2, _⟩ := ll_parts
  have hnl := le_mul b1 (Nat.le_of_eq l2) W1077_lt ll_lt WTINY_lt tiny_ok
  exact le_sub (fmul_lt _ _) hd1 hnl.2 W716_lt WTINY_lt HALF_lt half_ok

/-! ### the whole -/
/-- 1 divided by the factorials of 12, 11, .., 0 -/
def expC : List Nat := [4477122120089393304, 4493156764026750180, 4508805057796939612, 4523617214285662004, 4537941361671905306, 4551452160554016794, 4564047942368979991, 4575957461383581969, 4586165620538955093, 4595172819793696085, 4602678819172646912, 4607182418800017408, 4607182418800017408]
def expP (r : Nat) : Nat := expC.foldl (fun p c => fadd (fmul p r) c) 4460272573143870729
def fexp (x : Nat) : Nat := if kd x = 4 then NAN else if fless (fint 710) x = true then INF else if fless x (fint (-746)) = true then 0 else fscale (expP (expR x)) (fnv (fmul x PP))
theorem int_710 : fint 710 = 4649456441864749056 := by decide +kernel
theorem int_746 : fint (-746) = 13873145138068324352 := by decide +kernel
/-- an argument that is not too great and not too small -/
theorem exp_range {x : Nat} (hx : x < 18446744073709551616) (h4 : kd x ≠ 4) (h1 : fless (fint 710) x ≠ true) (h2 : fless x (fint (-746)) ≠ true) : mant x ≤ W746 := by
  rw [int_710] at h1
  rw [int_746] at h2
  unfold fless at h1 h2
  rw [show kd 4649456441864749056 = 2 by decide +kernel, show ng 4649456441864749056 = false by decide +kernel] at h1
  rw [show kd 13873145138068324352 = 2 by decide +kernel, show ng 13873145138068324352 = true by decide +kernel] at h2
  have hW : W746 = 4649773101213548544 := by unfold W746; rfl
  rw [hW]
  have c1 : ¬ (2 = 4 ∨ kd x = 4) := by omega
  have c2 : ¬ (kd x = 4 ∨ 2 = 4) := by omega
  rw [if_neg c1] at h1
  rw [if_neg c2] at h2
  cases hn : ng x
  · rw [hn] at h1
    simp at h1
    unfold ng at hn
    simp at hn
    unfold mant
    omega
  · rw [hn] at h2
    simp at h2
    unfold ng at hn
    simp at hn
    unfold mant
    omega
end Go.Proofs.YtibgpeaplmcogaaGreatDoor

namespace Go.Proofs.YtibgpeaplmcogaaGreatDoor
set_option maxRecDepth 100000
open Go.RowKit
set_option linter.unusedVariables false
set_option linter.unusedSimpArgs false

@[irreducible] def ONE : Nat := 4607182418800017408
@[irreducible] def TWO : Nat := 4611686018427387904
@[irreducible] def RR : Nat := 4609047870845172685
@[irreducible] def W1116 : Nat := 4604367669032910848
@[irreducible] def W32 : Nat := 4609434218613702656
@[irreducible] def W516 : Nat := 4599301119452119040
@[irreducible] def W14 : Nat := 4598175219545276416
@[irreducible] def W116 : Nat := 4589168020290535424
@[irreducible] def W132 : Nat := 4584664420663164928
@[irreducible] def W164 : Nat := 4580160821035794432
@[irreducible] def W38 : Nat := 4600427019358961664
@[irreducible] def W3364 : Nat := 4602819556661002240
@[irreducible] def W3464 : Nat := 4602960294149357568
@[irreducible] def W4464 : Nat := 4604367669032910848
@[irreducible] def W53 : Nat := 4368491638549381120
@[irreducible] def W55 : Nat := 4359484439294640128
@[irreducible] def W4 : Nat := 4616189618054758400
/-- 1 divided by 19, 17, .., 3 -/
def logC : List Nat := [4587745830934523688, 4588638185040256542, 4589468260265693457, 4590207312512236308, 4591215111030249286, 4592670820000712476, 4594314991293244562, 4596373779694328218, 4599676419421066581]
def logP (z : Nat) : Nat := logC.foldl (fun p c => fadd (fmul p z) c) 4587023449039406616
def logY (f : Nat) : Nat :=
  fadd (fadd (fdiv (fsub f ONE) (fadd TWO (fsub f ONE))) (fdiv (fsub f ONE) (fadd TWO (fsub f ONE))))
    (fmul (fadd (fdiv (fsub f ONE) (fadd TWO (fsub f ONE))) (fdiv (fsub f ONE) (fadd TWO (fsub f ONE))))
      (fmul (logP (fmul (fdiv (fsub f ONE) (fadd TWO (fsub f ONE))) (fdiv (fsub f ONE) (fadd TWO (fsub f ONE))))) (fmul (fdiv (fsub f ONE) (fadd TWO (fsub f ONE))) (fdiv (fsub f ONE) (fadd TWO (fsub f ONE))))))
def logZ (f : Nat) (k : Int) : Nat := if k = 0 then logY f else fadd (fmul (fint k) LL) (fadd (logY f) (fmul (fint k) ll))
/-! ### the sum over powers of z -/
/-! ### the logarithm near 1 -/
/-! ### the whole -/
def lf0 (x : Nat) : Nat := 4602678819172646912 + sig x * 2 ^ (53 - blen (sig x))
def lk0 (x : Nat) : Int := xpo x + blen (sig x) - 1
def lf (x : Nat) : Nat := if RR < lf0 x then lf0 x - 4503599627370496 else lf0 x
def lk (x : Nat) : Int := if RR < lf0 x then lk0 x + 1 else lk0 x
def flog (x : Nat) : Nat := if kd x = 0 then sg true INF else if kd x = 4 ∨ ng x = true then NAN else if kd x = 3 then x else logZ (lf x) (lk x)
theorem lf0_range {x : Nat} (h : 0 < sig x) : 4607182418800017408 ≤ lf0 x ∧ lf0 x < 4611686018427387904 := by
  have h1 := blen_self h
  have h0 := blen_pos h
  have h2 := sig_blen x
  have h3 := blen_lt (sig x)
  unfold lf0
  have a1 : 2 ^ (blen (sig x) - 1) * 2 ^ (53 - blen (sig x)) ≤ sig x * 2 ^ (53 - blen (sig x)) := Nat.mul_le_mul_right _ h1
  have a2 : sig x * 2 ^ (53 - blen (sig x)) < 2 ^ blen (sig x) * 2 ^ (53 - blen (sig x)) := Nat.mul_lt_mul_of_pos_right h3 (Nat.two_pow_pos _)
  rw [← Nat.pow_add, show blen (sig x) - 1 + (53 - blen (sig x)) = 52 by omega] at a1
  rw [← Nat.pow_add, show blen (sig x) + (53 - blen (sig x)) = 53 by omega] at a2
  omega
/-- where x lies, by its exponent -/
theorem lk_cases {x : Nat} (hx : x < 18446744073709551616) (hk : kd x = 1 ∨ kd x = 2) (hn : ng x = false) :
    (lk0 x < 0 ↔ x < 4607182418800017408) ∧ -1074 ≤ lk0 x ∧ lk0 x ≤ 1023 ∧ (lk0 x = 0 → lf0 x = x) ∧ (lk0 x = -1 → lf0 x = x + 4503599627370496) := by
  have hp := sig_pos hk
  have hsb := sig_blen x
  have hb0 := blen_pos hp
  have hm := sg_mant x hx
  rw [hn, sg_false] at hm
  have hmf := mant_fld x
  rw [hm, B52_eq] at hmf
  have hf : fld x < 2047 := (kd_cases x).2.1 (by omega)
  have hr := rst_lt x
  have hdm := Nat.div_add_mod' x 4503599627370496
  rw [hmf.1, hmf.2] at hdm
  by_cases h0 : fld x = 0
  · have hs : sig x = rst x := by unfold sig; rw [if_pos h0]
    have hxp : xpo x = -1074 := by unfold xpo; rw [if_pos h0]
    have hbl : blen (sig x) ≤ 52 := by rw [hs]; exact blen_le (by omega)
    unfold lk0
    rw [hxp]
    rw [h0, Nat.zero_mul] at hdm
    refine ⟨⟨fun _ => by omega, fun _ => by omega⟩, by omega, by omega, fun h => by omega, fun h => by omega⟩
  · have hs : sig x = rst x + 4503599627370496 := by unfold sig; rw [if_neg h0]
    have hxp : xpo x = (fld x : Int) - 1075 := by unfold xpo; rw [if_neg h0]
    have hbl : blen (sig x) = 53 := by rw [hs]; exact blen_unique (k := 52) (by omega) (by omega)
    have hl : lk0 x = (fld x : Int) - 1023 := by unfold lk0; rw [hxp, hbl]; omega
    have hlf : lf0 x = 4602678819172646912 + (rst x + 4503599627370496) := by unfold lf0; rw [hbl, hs, Nat.sub_self, Nat.pow_zero, Nat.mul_one]
    rw [hl, hlf]
    refine ⟨⟨fun h => ?_, fun h => ?_⟩, by omega, by omega, fun h => ?_, fun h => ?_⟩
    · have : fld x ≤ 1022 := by omega
      have := Nat.mul_le_mul_right 4503599627370496 this
      omega
    · rcases Nat.lt_or_ge (fld x) 1023 with h9 | h9
      · omega
      · have := Nat.mul_le_mul_right 4503599627370496 h9
        omega
    · have : fld x = 1023 := by omega
      rw [this] at hdm
      omega
    · have : fld x = 1022 := by omega
      rw [this] at hdm
      omega
end Go.Proofs.YtibgpeaplmcogaaGreatDoor

namespace Go.Proofs.YtibgpeaplmcogaaGreatDoor
set_option maxRecDepth 100000
open Go.RowKit
set_option linter.unusedVariables false
set_option linter.unusedSimpArgs false

/-! ### tables and sums -/
/-- the factorials of 0 to 13 -/
def facL : List Int := [1, 1, 2, 6, 24, 120, 720, 5040, 40320, 362880, 3628800, 39916800, 479001600, 6227020800]
def inv1 (n : Int) : Nat := fdiv (fint 1) (fint n)
theorem int_1 : fint 1 = ONE := by decide +kernel
theorem int_2 : fint 2 = TWO := by decide +kernel
theorem exp_tab : ∀ i, i < 13 → inv1 (facL.getD (12 - i) 0) = expC.getD i 0 := by decide +kernel
theorem exp_tab0 : inv1 6227020800 = 4460272573143870729 := by decide +kernel
theorem log_tab : ∀ i : Nat, i < 9 → inv1 (19 - 2 * (i : Int)) = logC.getD i 0 := by decide +kernel
theorem log_tab0 : inv1 21 = 4587023449039406616 := by decide +kernel
theorem fac_le : ∀ i, i < 14 → 1 ≤ facL.getD i 0 ∧ facL.getD i 0 ≤ 6227020800 := by decide +kernel
theorem expC_lt : ∀ i, i < 13 → expC.getD i 0 < 18446744073709551616 := by decide +kernel
theorem logC_lt : ∀ i, i < 9 → logC.getD i 0 < 18446744073709551616 := by decide +kernel
theorem fold_next (cs : List Nat) (f : Nat → Nat → Nat) (a : Nat) {i : Nat} (h : i < cs.length) : (cs.take (i + 1)).foldl f a = f ((cs.take i).foldl f a) (cs.getD i 0) := by
  rw [List.take_add_one, List.foldl_append, List.getElem?_eq_getElem h]
  simp [List.getD, List.getElem?_eq_getElem h]
def expS (r i : Nat) : Nat := (expC.take i).foldl (fun p c => fadd (fmul p r) c) 4460272573143870729
def logS (z i : Nat) : Nat := (logC.take i).foldl (fun p c => fadd (fmul p z) c) 4587023449039406616
theorem expS_0 (r : Nat) : expS r 0 = 4460272573143870729 := rfl
theorem logS_0 (z : Nat) : logS z 0 = 4587023449039406616 := rfl
theorem expS_end (r : Nat) : expS r 13 = expP r := rfl
theorem logS_end (z : Nat) : logS z 9 = logP z := rfl
theorem expS_next (r : Nat) {i : Nat} (h : i < 13) : expS r (i + 1) = fadd (fmul (expS r i) r) (expC.getD i 0) := fold_next expC _ _ h
theorem logS_next (z : Nat) {i : Nat} (h : i < 9) : logS z (i + 1) = fadd (fmul (logS z i) z) (logC.getD i 0) := fold_next logC _ _ h
theorem expS_lt (r : Nat) {i : Nat} (h : i ≤ 13) : expS r i < 18446744073709551616 := by
  rcases Nat.eq_zero_or_pos i with rfl | h0
  · rw [expS_0]; omega
  · obtain ⟨j, rfl⟩ : ∃ j, i = j + 1 := ⟨i - 1, by omega⟩
    rw [expS_next r (by omega)]
    exact fadd_lt (fmul_lt _ _) (expC_lt j (by omega))
theorem logS_lt (z : Nat) {i : Nat} (h : i ≤ 9) : logS z i < 18446744073709551616 := by
  rcases Nat.eq_zero_or_pos i with rfl | h0
  · rw [logS_0]; omega
  · obtain ⟨j, rfl⟩ : ∃ j, i = j + 1 := ⟨i - 1, by omega⟩
    rw [logS_next z (by omega)]
    exact fadd_lt (fmul_lt _ _) (logC_lt j (by omega))
/-! ### constants -/
theorem PP_lit : PP = 4609176140021203710 := by unfold PP; rfl
theorem LL_lit : LL = 4604418534311723008 := by unfold LL; rfl
theorem ll_lit : ll = 4461442080421002358 := by unfold ll; rfl
theorem ONE_lit : ONE = 4607182418800017408 := by unfold ONE; rfl
theorem TWO_lit : TWO = 4611686018427387904 := by unfold TWO; rfl
theorem RR_lit : RR = 4609047870845172685 := by unfold RR; rfl
/-! ### times powers of 2 -/
theorem sig_word {b : Nat} (f : fld b < 2047) : magR (sig b) 1 (xpo b) = mant b := by
  obtain ⟨h1, h2⟩ := xpo_range f
  rw [(magR_at (m := sig b) (e := xpo b) (s := (xpo b + 1074).toNat) (by omega)).1, ← vl_eq]
  exact mag_fv (mant_lt f)
theorem fless_pos {a b : Nat} (fa : fld a < 2047) (fb : fld b < 2047) (na : ng a = false) (nb : ng b = false) : fless a b = decide (a < b) := by
  have k1 := kd_of fa
  have k2 := kd_of fb
  unfold fless
  rw [if_neg (by omega), na, nb]
  simp
theorem one_parts : fld ONE < 2047 ∧ ng ONE = false ∧ fld TWO < 2047 ∧ ng TWO = false ∧ fld RR < 2047 ∧ ng RR = false := by decide +kernel
theorem lf0_word {x : Nat} (h : 0 < sig x) : magR (sig x) 1 (1 - (blen (sig x) : Int)) = lf0 x ∧ fscale (lf0 x) (-1) = lf0 x - 4503599627370496 ∧ fless RR (lf0 x) = decide (RR < lf0 x) ∧ lf0 x < 18446744073709551616 := by
  obtain ⟨r1, r2⟩ := lf0_range h
  have hsb := sig_blen x
  have hb0 := blen_pos h
  have hI := INF_lit
  have hf : fld (lf0 x) = 1023 := by unfold fld; omega
  have hr : rst (lf0 x) = lf0 x - 4607182418800017408 := by unfold rst; omega
  have hs : sig (lf0 x) = sig x * 2 ^ (53 - blen (sig x)) := by
    unfold sig
    rw [if_neg (by omega), hr]
    show lf0 x - 4607182418800017408 + 4503599627370496 = _
    have : lf0 x = 4602678819172646912 + sig x * 2 ^ (53 - blen (sig x)) := rfl
    unfold sig at this
    omega
  have hx : xpo (lf0 x) = -52 := by unfold xpo; rw [if_neg (by omega), hf]; omega
  have hn : ng (lf0 x) = false := by unfold ng; exact decide_eq_false (by omega)
  have hm : mant (lf0 x) = lf0 x := by unfold mant; omega
  have w1 := sig_word (b := lf0 x) (by omega)
  rw [hs, hx, magR_shift _ _ _ (by omega), hm] at w1
  obtain ⟨_, _, _, _, o5, o6⟩ := one_parts
  refine ⟨?_, ?_, fless_pos o5 (by omega) o6 hn, by omega⟩
  · rw [← w1]; congr 1; omega
  · unfold fscale
    rw [if_pos (by omega), hn, sg_false, hs, hx]
    have hf2 : fld (lf0 x - 4503599627370496) = 1022 := by unfold fld; omega
    have hr2 : rst (lf0 x - 4503599627370496) = lf0 x - 4607182418800017408 := by unfold rst; omega
    have hs2 : sig (lf0 x - 4503599627370496) = sig (lf0 x) := by unfold sig; rw [if_neg (by omega), if_neg (by omega), hr2, hr]
    have hx2 : xpo (lf0 x - 4503599627370496) = -53 := by unfold xpo; rw [if_neg (by omega), hf2]; omega
    have w2 := sig_word (b := lf0 x - 4503599627370496) (by omega)
    rw [hs2, hs, hx2, show mant (lf0 x - 4503599627370496) = lf0 x - 4503599627370496 by unfold mant; omega] at w2
    exact w2

end Go.Proofs.YtibgpeaplmcogaaGreatDoor

namespace Go.Proofs.YtibgpeaplmcogaaGreatDoor
set_option maxRecDepth 100000
open Go.RowKit
set_option linter.unusedVariables false
set_option linter.unusedSimpArgs false

theorem sg_no (v : Nat) : sg false v = v := by unfold sg; rw [if_neg (by decide)]
theorem fc_isn {b : Nat} (hb : b < 18446744073709551616) (w : World) :
    Calls Tryz.prog 218 #[.int .u64 b] w fun e w' => e = .returned (.bool (isn b)) ∧ w = w' := by
  have K := Lib.hid (fb_kind hb w)
  have h : ((kd b : Int) != 4) = isn b := by
    unfold isn
    by_cases h4 : kd b = 4
    · rw [h4]; rfl
    · rw [decide_eq_false h4]; simp; omega
  generalize isn b = t at *
  generalize kd b = k at *
  go_enter Tryz.func218, Tryz.ntmps218
  go_wp2_with fail
  refine K.out.mono ?_
  rintro _ w' ⟨rfl, rfl⟩
  go_wp2_with fail
  go_ret
  exact ⟨rfl, rfl⟩
theorem fc_rank {b : Nat} (hb : b < 18446744073709551616) (w : World) :
    Calls Tryz.prog 219 #[.int .u64 b] w fun e w' => e = .returned (.int .i64 (rk b)) ∧ w = w' := by
  have N := Lib.hid (fb_neg hb w)
  have m1 : IntKind.u64.wrap ((b : Int) * 2) = ((2 * mant b : Nat) : Int) := by unfold mant; rw [wrapU]; omega
  have hm : mant b < 9223372036854775808 := by unfold mant; omega
  have hr : rk b = if ng b = true then -(mant b : Int) else mant b := rfl
  generalize rk b = r at *
  generalize mant b = m at *
  generalize ng b = s at *
  have m2 : ((2 * m : Nat) : Int) / 2 = (m : Int) := by omega
  have HR := Lib.hid hr
  clear hr
  cases s
  · go_enter Tryz.func219, Tryz.ntmps219
    go_wp2_with fail
    refine N.out.mono ?_
    rintro _ w' ⟨rfl, rfl⟩
    go_wp2_with fail
    go_ret
    exact ⟨ret1 (by rw [HR.out]; simp), rfl⟩
  · go_enter Tryz.func219, Tryz.ntmps219
    go_wp2_with fail
    refine N.out.mono ?_
    rintro _ w' ⟨rfl, rfl⟩
    go_wp2_with fail
    go_ret
    exact ⟨ret1 (by rw [HR.out]; simp), rfl⟩
theorem fc_less {a b : Nat} (ha : a < 18446744073709551616) (hb : b < 18446744073709551616) (w : World) :
    Calls Tryz.prog 164 #[.int .u64 a, .int .u64 b] w fun e w' => e = .returned (.bool (fless a b)) ∧ w = w' := by
  rw [fless_rk ha hb]
  have N1 := Lib.hid (fc_isn ha w)
  have N2 := Lib.hid (fc_isn hb w)
  have R1 := Lib.hid (fc_rank ha w)
  have R2 := Lib.hid (fc_rank hb w)
  generalize isn a = s at *
  generalize isn b = t at *
  generalize rk a = x at *
  generalize rk b = y at *
  cases s
  · go_enter Tryz.func164, Tryz.ntmps164
    go_wp2_with fail
    refine N1.out.mono ?_
    rintro _ w' ⟨rfl, rfl⟩
    go_wp2_with fail
    go_ret
    exact ⟨rfl, rfl⟩
  · cases t
    · go_enter Tryz.func164, Tryz.ntmps164
      go_wp2_with fail
      refine N1.out.mono ?_
      rintro _ w' ⟨rfl, rfl⟩
      go_wp2_with fail
      refine N2.out.mono ?_
      rintro _ w' ⟨rfl, rfl⟩
      go_wp2_with fail
      go_ret
      exact ⟨rfl, rfl⟩
    · go_enter Tryz.func164, Tryz.ntmps164
      go_wp2_with fail
      refine N1.out.mono ?_
      rintro _ w' ⟨rfl, rfl⟩
      go_wp2_with fail
      refine N2.out.mono ?_
      rintro _ w' ⟨rfl, rfl⟩
      go_wp2_with fail
      refine R1.out.mono ?_
      rintro _ w' ⟨rfl, rfl⟩
      go_wp2_with fail
      refine R2.out.mono ?_
      rintro _ w' ⟨rfl, rfl⟩
      go_wp2_with fail
      go_ret
      exact ⟨retB (by simp), rfl⟩
set_option maxHeartbeats 2000000 in
theorem fc_scale {b : Nat} (hb : b < 18446744073709551616) (k : Int) (w : World) :
    Calls Tryz.prog 168 #[.int .u64 b, .int .i64 k] w (RetW (fscale b k) w) := by
  unfold fscale
  by_cases hf : fld b < 2047
  · rw [if_pos hf, ← scale_clamp hf k (L := 2200) (by omega)]
    obtain ⟨x1, x2⟩ := xpo_range hf
    have hs := sig_lt b
    have P := Lib.hid (fb_partsY hb hf w)
    obtain ⟨c, hc⟩ : ∃ c, min (max k (-2200)) 2200 = c := ⟨_, rfl⟩
    rw [hc]
    have hc1 : -2200 ≤ c ∧ c ≤ 2200 := by omega
    have W := Lib.hid (fr_word (ng b) (m := sig b) (by omega) (e := xpo b + c) (by omega) (by omega) w)
    generalize magR (sig b) 1 (xpo b + c) = M at *
    generalize sig b = m at *
    generalize xpo b = x at *
    generalize ng b = s at *
    go_enter Tryz.func168, Tryz.ntmps168
    go_wp2_with fail
    refine P.out.mono ?_
    rintro _ w' ⟨rfl, rfl⟩
    by_cases h1 : k < -2200
    · obtain rfl : c = -2200 := by omega
      go_wp2_with fail
      with_reducible refine W.out.mono ?_
      rintro _ w' ⟨rfl, b1⟩
      go_wp2_with fail
      go_ret
      exact ⟨rfl, b1⟩
    · by_cases h2 : 2200 < k
      · obtain rfl : c = 2200 := by omega
        have h3 : decide (2200 < k) = true := decide_eq_true h2
        go_wp2_with fail
        with_reducible refine W.out.mono ?_
        rintro _ w' ⟨rfl, b1⟩
        go_wp2_with fail
        go_ret
        exact ⟨rfl, b1⟩
      · obtain rfl : c = k := by omega
        go_wp2_with fail
        with_reducible refine W.out.mono ?_
        rintro _ w' ⟨rfl, b1⟩
        go_wp2_with fail
        go_ret
        exact ⟨rfl, b1⟩
  · rw [if_neg hf]
    have P := Lib.hid (fb_partsN hb hf w)
    have C := Lib.hid (fb_clean hb w)
    generalize cln b = r at *
    go_enter Tryz.func168, Tryz.ntmps168
    go_wp2_with fail
    refine P.out.mono ?_
    rintro _ w' ⟨rfl, rfl⟩
    go_wp2_with fail
    refine C.out.mono ?_
    rintro _ w' ⟨rfl, rfl⟩
    go_wp2_with fail
    go_ret
    exact ⟨rfl, Below.refl _ _⟩

/-- the nearest integer, as it is handed out -/
def RetN (b : Nat) (w : World) (x : Ending) (w' : World) : Prop := x = .returned (.tuple #[.int .i64 (nrv b), .bool (nok b)]) ∧ Below w.heap.size w w'
theorem retN {a c : Int} {p q : Bool} (h : a = c) (h' : p = q) : Ending.returned (.tuple #[.int .i64 a, .bool p]) = .returned (.tuple #[.int .i64 c, .bool q]) := by rw [h, h']

set_option maxHeartbeats 4000000 in
theorem fc_near {b : Nat} (hb : b < 18446744073709551616) (w : World) :
    Calls Tryz.prog 166 #[.int .u64 b] w (RetN b w) := by
  unfold RetN
  by_cases hf : fld b < 2047
  · obtain ⟨x1, x2⟩ := xpo_range hf
    have hs := sig_lt b
    have P := Lib.hid (fb_partsY hb hf w)
    have L0 := limb_len (sig b : Int) (by unfold U; omega) w
    rw [Int.toNat_natCast] at L0
    have L := Lib.hid L0
    clear L0
    have hbl : blen (sig b) ≤ 53 := blen_le (by omega)
    by_cases hn : (blen (sig b) : Int) + xpo b ≤ 62
    · have ho : nok b = true := by unfold nok; rw [decide_eq_true hf, decide_eq_true hn]; rfl
      obtain ⟨q1, q2⟩ := near_fits ho
      have hv : nrv b = fnv b := by unfold nrv; rw [if_pos ho]
      rw [ho, hv]
      clear hv ho
      rcases Int.lt_or_le (xpo b) 0 with hl | hl
      · obtain ⟨k, hk⟩ : ∃ k : Nat, xpo b = -(k : Int) := ⟨(-(xpo b)).toNat, by omega⟩
        have hk1 : 1 ≤ k := by omega
        obtain ⟨y1, y2, y3, y4⟩ := near_word hs hk1
        have q3 := q2 k hk1 hk
        rw [fnv_dn hf hk]
        rw [← hk, Int.sub_eq_add_neg] at y1 y2 y3 y4
        have W := Lib.hid (fr_word false (m := sig b) (by omega) (e := xpo b + -1074) (by omega) (by omega) w)
        rw [sg_no] at W
        have P2 := fun w1 => fb_partsY y1 y2 w1
        rw [y3, y4] at P2
        generalize magR (sig b) 1 (xpo b + -1074) = M at *
        generalize xpo M = X2 at *
        generalize rdiv (sig b) (2 ^ k) = R at *
        generalize blen (sig b) = n at *
        generalize sig b = m at *
        generalize ng b = s at *
        generalize xpo b = z at *
        have HP2 := Lib.hid P2
        have hR : sI s R = if s = true then -(R : Int) else R := rfl
        clear y1 y2 y3 y4 P2 q1 q2 hk
        go_enter Tryz.func166, Tryz.ntmps166
        go_wp2_with fail
        refine P.out.mono ?_
        rintro _ w' ⟨rfl, rfl⟩
        go_wp2_with fail
        refine L.out.mono ?_
        rintro _ w' ⟨rfl, rfl⟩
        go_wp2_with fail
        with_reducible refine W.out.mono ?_
        rintro _ w1 ⟨rfl, b1⟩
        go_wp2_with fail
        with_reducible refine (HP2.out _).mono ?_
        rintro _ w' ⟨rfl, rfl⟩
        cases s
        · go_wp2_with fail
          go_ret2
          exact ⟨retN (by rw [hR]; simp) rfl, b1⟩
        · go_wp2_with fail
          go_ret2
          exact ⟨retN (by rw [hR]; simp) rfl, b1⟩
      · obtain ⟨x, hx⟩ : ∃ x : Nat, xpo b = x := ⟨(xpo b).toNat, by omega⟩
        have q3 := q1 x hx
        rw [fnv_up hf hx]
        have e1 : IntKind.u64.wrap ((sig b : Int) * 2 ^ x) = ((sig b * 2 ^ x : Nat) : Int) := by
          have hc : (sig b : Int) * 2 ^ x = ((sig b * 2 ^ x : Nat) : Int) := by push_cast; rfl
          rw [hc, wrapU]
          omega
        rw [hx] at P hn x1 x2
        generalize sig b * 2 ^ x = R at *
        generalize blen (sig b) = n at *
        generalize sig b = m at *
        generalize ng b = s at *
        have hR : sI s R = if s = true then -(R : Int) else R := rfl
        clear q1 q2
        go_enter Tryz.func166, Tryz.ntmps166
        go_wp2_with fail
        refine P.out.mono ?_
        rintro _ w' ⟨rfl, rfl⟩
        go_wp2_with fail
        refine L.out.mono ?_
        rintro _ w' ⟨rfl, rfl⟩
        cases s
        · go_wp2_with fail
          go_ret2
          exact ⟨retN (by rw [hR]; simp) rfl, Below.refl _ _⟩
        · go_wp2_with fail
          go_ret2
          exact ⟨retN (by rw [hR]; simp) rfl, Below.refl _ _⟩
    · have ho : nok b = false := by unfold nok; rw [decide_eq_true hf, decide_eq_false hn]; rfl
      have hv : nrv b = 0 := by unfold nrv; rw [ho]; rfl
      rw [ho, hv]
      generalize blen (sig b) = n at *
      generalize sig b = m at *
      generalize xpo b = x at *
      generalize ng b = s at *
      have hd : decide (62 < (n : Int) + x) = true := decide_eq_true (by omega)
      go_enter Tryz.func166, Tryz.ntmps166
      go_wp2_with fail
      refine P.out.mono ?_
      rintro _ w' ⟨rfl, rfl⟩
      go_wp2_with fail
      refine L.out.mono ?_
      rintro _ w' ⟨rfl, rfl⟩
      go_wp2_with fail
      go_ret2
      exact ⟨rfl, Below.refl _ _⟩
  · have P := Lib.hid (fb_partsN hb hf w)
    have ho : nok b = false := by unfold nok; rw [decide_eq_false hf]; rfl
    have hv : nrv b = 0 := by unfold nrv; rw [ho]; rfl
    rw [ho, hv]
    go_enter Tryz.func166, Tryz.ntmps166
    go_wp2_with fail
    refine P.out.mono ?_
    rintro _ w' ⟨rfl, rfl⟩
    go_wp2_with fail
    go_ret2
    exact ⟨rfl, Below.refl _ _⟩

end Go.Proofs.YtibgpeaplmcogaaGreatDoor

namespace Go.Proofs.YtibgpeaplmcogaaGreatDoor
set_option maxRecDepth 100000
open Go.RowKit
set_option linter.unusedVariables false
set_option linter.unusedSimpArgs false

/-- the variable factorials holds the factorials -/
def Fac (w : World) : Prop := 1 < w.heap.size ∧ ∀ r, r < 14 → w.cell? ⟨1, r, none⟩ = some (.int .i64 (facL.getD r 0))
theorem Fac.below {w w' : World} (h : Fac w) (b : Below w.heap.size w w') : Fac w' :=
  ⟨Nat.lt_of_lt_of_le h.1 b.size, fun r hr => (b.cell (p := ⟨1, r, none⟩) h.1).trans (h.2 r hr)⟩
theorem fdiv_lt (a b : Nat) : fdiv a b < 18446744073709551616 := by
  unfold fdiv
  split
  · unfold NAN; omega
  · split
    · exact sg_lt (Nat.le_refl _)
    · split
      · exact sg_lt (Nat.zero_le _)
      · exact sg_lt (mag_le _ _)
theorem inv1_lt (n : Int) : inv1 n < 18446744073709551616 := fdiv_lt _ _

theorem kn_inv (n : Int) (h1 : -9223372036854775808 ≤ n) (h2 : n ≤ 9223372036854775807) (w : World) :
    Calls Tryz.prog 220 #[.int .i64 n] w (RetW (inv1 n) w) := by
  have A1 := fun w1 => fr_int 1 (by omega) (by omega) w1
  have A2 := fun w1 => fr_int n h1 h2 w1
  have A3 := fun w1 => fp_div (fint_lt 1) (fint_lt n) w1
  change ∀ w1, Calls _ _ _ _ (RetW (fint 1) w1) at A1
  change ∀ w1, Calls _ _ _ _ (RetW (fint n) w1) at A2
  change ∀ w1, Calls _ _ _ _ (RetW (inv1 n) w1) at A3
  generalize inv1 n = r at *
  generalize fint 1 = x at *
  generalize fint n = y at *
  have H1 := Lib.hid A1
  have H2 := Lib.hid A2
  have H3 := Lib.hid A3
  clear A1 A2 A3
  go_enter Tryz.func220, Tryz.ntmps220
  go_wp2_with fail
  with_reducible refine (H1.out _).mono ?_
  rintro _ w1 ⟨rfl, b1⟩
  go_wp2_with fail
  with_reducible refine (H2.out _).mono ?_
  rintro _ w2 ⟨rfl, b2⟩
  go_wp2_with fail
  with_reducible refine (H3.out _).mono ?_
  rintro _ w3 ⟨rfl, b3⟩
  go_wp2_with fail
  go_ret
  exact ⟨rfl, bbw b1 (bbw b2 b3)⟩
theorem kn_next {p x : Nat} (hp : p < 18446744073709551616) (hx : x < 18446744073709551616) (n : Int) (h1 : -9223372036854775808 ≤ n) (h2 : n ≤ 9223372036854775807) (w : World) :
    Calls Tryz.prog 221 #[.int .u64 p, .int .u64 x, .int .i64 n] w (RetW (fadd (fmul p x) (inv1 n)) w) := by
  have A1 := fun w1 => fp_mul hp hx w1
  have A2 := fun w1 => kn_inv n h1 h2 w1
  have A3 := fun w1 => fs_add (fmul_lt p x) (inv1_lt n) w1
  generalize fadd (fmul p x) (inv1 n) = r at *
  generalize fmul p x = y at *
  generalize inv1 n = z at *
  have H1 := Lib.hid A1
  have H2 := Lib.hid A2
  have H3 := Lib.hid A3
  clear A1 A2 A3
  go_enter Tryz.func221, Tryz.ntmps221
  go_wp2_with fail
  with_reducible refine (H1.out _).mono ?_
  rintro _ w1 ⟨rfl, b1⟩
  go_wp2_with fail
  with_reducible refine (H2.out _).mono ?_
  rintro _ w2 ⟨rfl, b2⟩
  go_wp2_with fail
  with_reducible refine (H3.out _).mono ?_
  rintro _ w3 ⟨rfl, b3⟩
  go_wp2_with fail
  go_ret
  exact ⟨rfl, bbw b1 (bbw b2 b3)⟩
def RetWW (u v : Nat) (w : World) (x : Ending) (w' : World) : Prop := x = .returned (.tuple #[.int .u64 u, .int .u64 v]) ∧ Below w.heap.size w w'
theorem kn_ln2 (k : Int) (h1 : -9223372036854775808 ≤ k) (h2 : k ≤ 9223372036854775807) (w : World) :
    Calls Tryz.prog 167 #[.int .i64 k] w (RetWW (fmul (fint k) LL) (fmul (fint k) ll) w) := by
  have A1 := fun w1 => fr_int k h1 h2 w1
  change ∀ w1, Calls _ _ _ _ (RetW (fint k) w1) at A1
  have A2 := fun w1 => fp_mul (fint_lt k) (b := 4604418534311723008) (by omega) w1
  have A3 := fun w1 => fp_mul (fint_lt k) (b := 4461442080421002358) (by omega) w1
  rw [LL_lit, ll_lit]
  generalize fmul (fint k) 4604418534311723008 = u at *
  generalize fmul (fint k) 4461442080421002358 = v at *
  generalize fint k = x at *
  have H1 := Lib.hid A1
  have H2 := Lib.hid A2
  have H3 := Lib.hid A3
  clear A1 A2 A3
  go_enter Tryz.func167, Tryz.ntmps167
  go_wp2_with fail
  with_reducible refine (H1.out _).mono ?_
  rintro _ w1 ⟨rfl, b1⟩
  go_wp2_with fail
  refine (H2.out _).mono ?_
  rintro _ w2 ⟨rfl, b2⟩
  go_wp2_with fail
  refine (H3.out _).mono ?_
  rintro _ w3 ⟨rfl, b3⟩
  go_wp2_with fail
  go_ret2
  exact ⟨rfl, bbw b1 (bbw b2 b3)⟩

set_option maxHeartbeats 2000000 in
theorem kn_series {r : Nat} (hr : r < 18446744073709551616) (w : World) (hF : Fac w) :
    Calls Tryz.prog 169 #[.int .u64 r] w (RetW (expP r) w) := by
  rw [← expS_end]
  have hc : w.cell? ⟨1, 13, none⟩ = some (.int .i64 6227020800) := hF.2 13 (by omega)
  have A1 := kn_inv 6227020800 (by omega) (by omega) w
  rw [exp_tab0, ← expS_0 r] at A1
  have H1 := Lib.hid A1
  have HF := Lib.hid hF
  clear A1 hF
  go_enter Tryz.func169, Tryz.ntmps169
  go_wp2_with fail
  with_reducible refine H1.out.mono ?_
  rintro _ w1 ⟨rfl, b1⟩
  go_wp2_with fail
  clear H1 hc
  go_loopw [4, 11] (fun p iv wr => ∃ (i q : Nat), i ≤ 13 ∧ iv = .int .i64 i ∧ p = .int .u64 q ∧ Hid (q = expS r i) ∧ Below w.heap.size w wr) (fun _ iv _ => 13 - mes iv)
  case atStart => exact ⟨0, _, by omega, rfl, rfl, Lib.hid rfl, b1⟩
  case round =>
    clear b1
    obtain ⟨i, q, hi, rfl, rfl, HQ, hb⟩ := hrel
    by_cases h13 : i = 13
    · subst h13
      go_wp2_with fail
      go_ret
      exact ⟨ret1 (by rw [HQ.out]), hb⟩
    · have hi2 : i < 13 := by omega
      have hF := HF.out.below hb
      obtain ⟨t, ht⟩ : ∃ t : Nat, (12 : Int) - i = t := ⟨12 - i, by omega⟩
      have ht2 : t = 12 - i := by omega
      have hc := hF.2 t (by omega)
      have hv1 := fac_le t (by omega)
      have ht3 := exp_tab i hi2
      rw [← ht2] at ht3
      generalize facL.getD t 0 = v at *
      have hq : q < 18446744073709551616 := by rw [HQ.out]; exact expS_lt r (by omega)
      have A2 := fun w1 => kn_next hq hr v (by omega) (by omega) w1
      rw [ht3, HQ.out, ← expS_next r hi2, ← HQ.out] at A2
      have HN := Lib.hid A2
      clear A2 ht3 hF ht2
      go_wp2_with fail
      with_reducible refine (HN.out _).mono ?_
      rintro _ w2 ⟨rfl, b2⟩
      go_wp2_with fail
      go_roundw
      case rel => exact ⟨i + 1, _, by omega, vint (by omega), rfl, Lib.hid rfl, bbw hb b2⟩
      case measure => simp [mes, intOf]; omega

end Go.Proofs.YtibgpeaplmcogaaGreatDoor

namespace Go.Proofs.YtibgpeaplmcogaaGreatDoor
set_option maxRecDepth 100000
open Go.RowKit
set_option linter.unusedVariables false
set_option linter.unusedSimpArgs false

theorem expP_lt (r : Nat) : expP r < 18446744073709551616 := by rw [← expS_end]; exact expS_lt r (by omega)
set_option maxHeartbeats 4000000 in
theorem kn_exp {x : Nat} (hx : x < 18446744073709551616) (w : World) (hF : Fac w) :
    Calls Tryz.prog 102 #[.int .u64 x] w (RetW (fexp x) w) := by
  have K := Lib.hid (fb_kind hx w)
  by_cases h4 : kd x = 4
  · have e : fexp x = NAN := by unfold fexp; rw [if_pos h4]
    rw [e]
    rw [h4] at K
    have N := Lib.hid (fb_nan w)
    generalize NAN = v at *
    go_enter Tryz.func102, Tryz.ntmps102
    go_wp2_with fail
    refine K.out.mono ?_
    rintro _ w' ⟨rfl, rfl⟩
    go_wp2_with fail
    refine N.out.mono ?_
    rintro _ w' ⟨rfl, rfl⟩
    go_wp2_with fail
    go_ret
    exact ⟨rfl, Below.refl _ _⟩
  have g4 : ((kd x : Int) == 4) = false := by simp; omega
  have I1 := fr_int 710 (by omega) (by omega) w
  change Calls _ _ _ _ (RetW (fint 710) w) at I1
  have HI1 := Lib.hid I1
  have L1 := Lib.hid (fun w1 => fc_less (fint_lt 710) hx w1)
  by_cases h1 : fless (fint 710) x = true
  · have e : fexp x = INF := by unfold fexp; rw [if_neg h4, if_pos h1]
    rw [e]
    rw [h1] at L1
    have N := fun w1 => fb_inf false w1
    rw [sg_false] at N
    have HN := Lib.hid N
    generalize fint 710 = c at *
    generalize INF = v at *
    generalize kd x = k at *
    clear I1 N
    go_enter Tryz.func102, Tryz.ntmps102
    go_wp2_with fail
    refine K.out.mono ?_
    rintro _ w' ⟨rfl, rfl⟩
    go_wp2_with fail
    with_reducible refine HI1.out.mono ?_
    rintro _ w1 ⟨rfl, b1⟩
    go_wp2_with fail
    with_reducible refine (L1.out _).mono ?_
    rintro _ w' ⟨rfl, rfl⟩
    go_wp2_with fail
    with_reducible refine (HN.out _).mono ?_
    rintro _ w' ⟨rfl, rfl⟩
    go_wp2_with fail
    go_ret
    exact ⟨rfl, b1⟩
  have h1f : fless (fint 710) x = false := by simpa using h1
  rw [h1f] at L1
  have I2 := fun w1 => fr_int (-746) (by omega) (by omega) w1
  change ∀ w1, Calls _ _ _ _ (RetW (fint (-746)) w1) at I2
  have HI2 := Lib.hid I2
  have L2 := Lib.hid (fun w1 => fc_less hx (fint_lt (-746)) w1)
  by_cases h2 : fless x (fint (-746)) = true
  · have e : fexp x = 0 := by unfold fexp; rw [if_neg h4, if_neg h1, if_pos h2]
    rw [e]
    rw [h2] at L2
    clear h1 h1f h2 e
    generalize fint 710 = c at *
    generalize fint (-746) = d at *
    generalize kd x = k at *
    clear I1 I2
    go_enter Tryz.func102, Tryz.ntmps102
    go_wp2_with fail
    refine K.out.mono ?_
    rintro _ w' ⟨rfl, rfl⟩
    go_wp2_with fail
    with_reducible refine HI1.out.mono ?_
    rintro _ w1 ⟨rfl, b1⟩
    go_wp2_with fail
    with_reducible refine (L1.out _).mono ?_
    rintro _ w' ⟨rfl, rfl⟩
    go_wp2_with fail
    with_reducible refine (HI2.out _).mono ?_
    rintro _ w2 ⟨rfl, b2⟩
    go_wp2_with fail
    with_reducible refine (L2.out _).mono ?_
    rintro _ w' ⟨rfl, rfl⟩
    go_wp2_with fail
    go_ret
    exact ⟨rfl, bbw b1 b2⟩
  have h2f : fless x (fint (-746)) = false := by simpa using h2
  rw [h2f] at L2
  have e : fexp x = fscale (expP (expR x)) (fnv (fmul x PP)) := by unfold fexp; rw [if_neg h4, if_neg h1, if_neg h2]
  obtain ⟨_, n1, n2⟩ := expR_half hx (exp_range hx h4 h1 h2)
  have ho := nok_of n2 n1
  have hv : nrv (fmul x PP) = fnv (fmul x PP) := by unfold nrv; rw [if_pos ho]
  have hR : expR x = fsub (fsub x (fmul (fint (fnv (fmul x PP))) LL)) (fmul (fint (fnv (fmul x PP))) ll) := rfl
  have M1 : ∀ w1, Calls Tryz.prog 99 #[.int .u64 x, .int .u64 4609176140021203710] w1 (RetW (fmul x PP) w1) := by
    intro w1
    rw [PP_lit]
    exact fp_mul hx (b := 4609176140021203710) (by omega) w1
  have NR := fun w1 => fc_near (fmul_lt x PP) w1
  unfold RetN at NR
  rw [hv, ho] at NR
  have T := fun w1 => kn_ln2 (fnv (fmul x PP)) (by omega) (by omega) w1
  have S1 := fun w1 => fs_sub hx (fmul_lt (fint (fnv (fmul x PP))) LL) w1
  have S2 := fun w1 => fs_sub (fsub_lt (a := x) (b := fmul (fint (fnv (fmul x PP))) LL) hx) (fmul_lt (fint (fnv (fmul x PP))) ll) w1
  rw [← hR] at S2
  have hRl : expR x < 18446744073709551616 := fsub_lt (fsub_lt hx)
  have SE := fun w1 hF => kn_series hRl w1 hF
  have SC := fun w1 => fc_scale (expP_lt (expR x)) (fnv (fmul x PP)) w1
  rw [← e] at SC
  clear e hR hRl h1 h1f h2 h2f ho hv n2 I1 I2 h4
  generalize fexp x = E at *
  generalize expP (expR x) = EP at *
  generalize expR x = ER at *
  generalize fsub x (fmul (fint (fnv (fmul x PP))) LL) = D1 at *
  generalize fmul (fint (fnv (fmul x PP))) LL = U at *
  generalize fmul (fint (fnv (fmul x PP))) ll = V at *
  generalize fnv (fmul x PP) = k at *
  generalize fmul x PP = m at *
  generalize fint 710 = c at *
  generalize fint (-746) = d at *
  generalize kd x = kx at *
  have HM := Lib.hid M1
  have HNR := Lib.hid NR
  have HT := Lib.hid T
  have HS1 := Lib.hid S1
  have HS2 := Lib.hid S2
  have HSE := Lib.hid SE
  have HSC := Lib.hid SC
  have HFac := Lib.hid hF
  clear M1 NR T S1 S2 SE SC hF
  go_enter Tryz.func102, Tryz.ntmps102
  go_wp2_with fail
  refine K.out.mono ?_
  rintro _ w' ⟨rfl, rfl⟩
  go_wp2_with fail
  with_reducible refine HI1.out.mono ?_
  rintro _ w1 ⟨rfl, b1⟩
  go_wp2_with fail
  with_reducible refine (L1.out _).mono ?_
  rintro _ w' ⟨rfl, rfl⟩
  go_wp2_with fail
  with_reducible refine (HI2.out _).mono ?_
  rintro _ w2 ⟨rfl, b2⟩
  go_wp2_with fail
  with_reducible refine (L2.out _).mono ?_
  rintro _ w' ⟨rfl, rfl⟩
  go_wp2_with fail
  with_reducible refine (HM.out _).mono ?_
  rintro _ w3 ⟨rfl, b3⟩
  go_wp2_with fail
  with_reducible refine (HNR.out _).mono ?_
  rintro _ w4 ⟨rfl, b4⟩
  go_wp2_with fail
  with_reducible refine (HT.out _).mono ?_
  rintro _ w5 ⟨rfl, b5⟩
  go_wp2_with fail
  with_reducible refine (HS1.out _).mono ?_
  rintro _ w6 ⟨rfl, b6⟩
  go_wp2_with fail
  with_reducible refine (HS2.out _).mono ?_
  rintro _ w7 ⟨rfl, b7⟩
  have y7 := bbw b1 (bbw b2 (bbw b3 (bbw b4 (bbw b5 (bbw b6 b7)))))
  go_wp2_with fail
  with_reducible refine (HSE.out _ (HFac.out.below y7)).mono ?_
  rintro _ w8 ⟨rfl, b8⟩
  go_wp2_with fail
  with_reducible refine (HSC.out _).mono ?_
  rintro _ w9 ⟨rfl, b9⟩
  go_wp2_with fail
  go_ret
  exact ⟨rfl, bbw y7 (bbw b8 b9)⟩

set_option maxHeartbeats 4000000 in
theorem kn_split {x : Nat} (hx : x < 18446744073709551616) (hk : kd x = 1 ∨ kd x = 2) (hn : ng x = false) (w : World) :
    Calls Tryz.prog 170 #[.int .u64 x] w fun e w' => e = .returned (.tuple #[.int .u64 (lf x), .int .i64 (lk x)]) ∧ Below w.heap.size w w' := by
  have hf : fld x < 2047 := (kd_cases x).2.1 (by omega)
  have hp := sig_pos hk
  have hs := sig_lt x
  have hsb := sig_blen x
  obtain ⟨_, c2, c3, _, _⟩ := lk_cases hx hk hn
  obtain ⟨z1, z2, z3, z4⟩ := lf0_word hp
  have P := Lib.hid (fb_partsY hx hf w)
  have L0 := limb_len (sig x : Int) (by unfold U; omega) w
  rw [Int.toNat_natCast] at L0
  have HL := Lib.hid L0
  have hlk : xpo x + (blen (sig x) : Int) - 1 = lk0 x := rfl
  have hsc : fscale x (-(lk0 x)) = lf0 x := by
    unfold fscale
    rw [if_pos hf, hn, sg_false, ← z1]
    congr 1
    rw [← hlk]
    omega
  have S1 := fun w1 => fc_scale hx (-(lk0 x)) w1
  rw [hsc] at S1
  have LE : ∀ w1, Calls Tryz.prog 164 #[.int .u64 4609047870845172685, .int .u64 (lf0 x)] w1 fun e w' => e = .returned (.bool (decide (RR < lf0 x))) ∧ w1 = w' := by
    intro w1
    rw [← z3, RR_lit]
    exact fc_less (a := 4609047870845172685) (by omega) z4 w1
  have S2 := fun w1 => fc_scale z4 (-1) w1
  rw [z2] at S2
  obtain ⟨x1, x2⟩ := xpo_range hf
  have hF : lf x = if RR < lf0 x then lf0 x - 4503599627370496 else lf0 x := rfl
  have hK : lk x = if RR < lf0 x then lk0 x + 1 else lk0 x := rfl
  clear hsc z1 z2 z3 L0
  by_cases hr : RR < lf0 x
  · rw [if_pos hr] at hF hK
    rw [decide_eq_true hr] at LE
    rw [hF, hK]
    clear hF hK
    generalize lf0 x - 4503599627370496 = G at *
    generalize lf0 x = F at *
    generalize lk0 x = k at *
    generalize blen (sig x) = n at *
    generalize sig x = m at *
    generalize xpo x = e at *
    generalize ng x = s at *
    have H1 := Lib.hid S1
    have H2 := Lib.hid S2
    have HE := Lib.hid LE
    clear S1 S2 LE hr
    go_enter Tryz.func170, Tryz.ntmps170
    go_wp2_with fail
    refine P.out.mono ?_
    rintro _ w' ⟨rfl, rfl⟩
    go_wp2_with fail
    refine HL.out.mono ?_
    rintro _ w' ⟨rfl, rfl⟩
    go_wp2_with fail
    with_reducible refine (H1.out _).mono ?_
    rintro _ w1 ⟨rfl, b1⟩
    go_wp2_with fail
    with_reducible refine (HE.out _).mono ?_
    rintro _ w' ⟨rfl, rfl⟩
    go_wp2_with fail
    with_reducible refine (H2.out _).mono ?_
    rintro _ w2 ⟨rfl, b2⟩
    go_wp2_with fail
    go_ret2
    exact ⟨rfl, bbw b1 b2⟩
  · rw [if_neg hr] at hF hK
    rw [decide_eq_false hr] at LE
    rw [hF, hK]
    clear hF hK S2
    generalize lf0 x = F at *
    generalize lk0 x = k at *
    generalize blen (sig x) = n at *
    generalize sig x = m at *
    generalize xpo x = e at *
    generalize ng x = s at *
    have H1 := Lib.hid S1
    have HE := Lib.hid LE
    clear S1 LE hr
    go_enter Tryz.func170, Tryz.ntmps170
    go_wp2_with fail
    refine P.out.mono ?_
    rintro _ w' ⟨rfl, rfl⟩
    go_wp2_with fail
    refine HL.out.mono ?_
    rintro _ w' ⟨rfl, rfl⟩
    go_wp2_with fail
    with_reducible refine (H1.out _).mono ?_
    rintro _ w1 ⟨rfl, b1⟩
    go_wp2_with fail
    with_reducible refine (HE.out _).mono ?_
    rintro _ w' ⟨rfl, rfl⟩
    go_wp2_with fail
    go_ret2
    exact ⟨rfl, b1⟩

end Go.Proofs.YtibgpeaplmcogaaGreatDoor

namespace Go.Proofs.YtibgpeaplmcogaaGreatDoor
set_option maxRecDepth 100000
open Go.RowKit
set_option linter.unusedVariables false
set_option linter.unusedSimpArgs false

end Go.Proofs.YtibgpeaplmcogaaGreatDoor

namespace Go.Proofs.YtibgpeaplmcogaaGreatDoor
set_option maxRecDepth 100000
open Go.RowKit
set_option linter.unusedVariables false
set_option linter.unusedSimpArgs false

end Go.Proofs.YtibgpeaplmcogaaGreatDoor
