/-
  Small plain facts for the walks of layer 14: tables of quotients, sums step by step, and a double times powers of 2 until it lies between 1 and 2. Conditions: as each lemma says.
-/
import Derived.Test.YtmoahgiklgicgaaDoorKnMathAll
namespace Go.Proofs.YtmoahgiklgicgaaDoor
set_option maxRecDepth 100000
open Go.RowKit
set_option linter.unusedVariables false
set_option linter.unusedSimpArgs false

@[irreducible] def ONE : Nat := 4607182418800017408
@[irreducible] def TWO : Nat := 4611686018427387904
@[irreducible] def RR : Nat := 4609047870845172685
@[irreducible] def W1116 : Nat := 4604367669032910848
@[irreducible] def W32 : Nat := 4609434218613702656
@[irreducible] def W516 : Nat := 4599301119452119040
@[irreducible] def W14 : Nat := 4598175219545276416
@[irreducible] def W116 : Nat := 4589168020290535424
@[irreducible] def W132 : Nat := 4584664420663164928
@[irreducible] def W164 : Nat := 4580160821035794432
@[irreducible] def W38 : Nat := 4600427019358961664
@[irreducible] def W3364 : Nat := 4602819556661002240
@[irreducible] def W3464 : Nat := 4602960294149357568
@[irreducible] def W4464 : Nat := 4604367669032910848
@[irreducible] def W53 : Nat := 4368491638549381120
@[irreducible] def W55 : Nat := 4359484439294640128
@[irreducible] def W4 : Nat := 4616189618054758400
theorem kn_lt : ONE < INF ∧ TWO < INF ∧ W1116 < INF ∧ W32 < INF ∧ W516 < INF ∧ W14 < INF ∧ W116 < INF ∧ W132 < INF ∧ W164 < INF ∧ W38 < INF ∧ W3364 < INF ∧ W3464 < INF ∧ W4464 < INF ∧ W53 < INF ∧ W55 < INF ∧ W4 < INF := by decide +kernel
theorem kn_fv : fv ONE = OO ∧ fv TWO = 2 * OO ∧ fv W1116 * 16 = 11 * OO ∧ fv W32 * 2 = 3 * OO ∧ fv W516 * 16 = 5 * OO ∧ fv W14 * 4 = OO ∧ fv W116 * 16 = OO ∧ fv W132 * 32 = OO ∧ fv W164 * 64 = OO := by decide +kernel
theorem kn_fv2 : fv W38 * 8 = 3 * OO ∧ fv W3364 * 64 = 33 * OO ∧ fv W3464 * 64 = 34 * OO ∧ fv W4464 * 64 = 44 * OO ∧ fv W53 = HH ∧ fv W55 * 4 = HH ∧ fv W4 = 4 * OO ∧ fv WTINY * 1048576 = OO ∧ fv W4464 ≤ fv LL ∧ fv (ONE + 1) = OO + 2 * HH ∧ fv (ONE - 1) + HH = OO := by decide +kernel
theorem kn_parts : ng ONE = false ∧ mant ONE = ONE ∧ ng TWO = false ∧ mant TWO = TWO ∧ ONE < 18446744073709551616 ∧ fv 1 = 1 ∧ (1 < INF) := by decide +kernel

/-- 1 divided by 19, 17, .., 3 -/
def logC : List Nat := [4587745830934523688, 4588638185040256542, 4589468260265693457, 4590207312512236308, 4591215111030249286, 4592670820000712476, 4594314991293244562, 4596373779694328218, 4599676419421066581]
def logP (z : Nat) : Nat := logC.foldl (fun p c => fadd (fmul p z) c) 4587023449039406616
def logY (f : Nat) : Nat :=
  fadd (fadd (fdiv (fsub f ONE) (fadd TWO (fsub f ONE))) (fdiv (fsub f ONE) (fadd TWO (fsub f ONE))))
    (fmul (fadd (fdiv (fsub f ONE) (fadd TWO (fsub f ONE))) (fdiv (fsub f ONE) (fadd TWO (fsub f ONE))))
      (fmul (logP (fmul (fdiv (fsub f ONE) (fadd TWO (fsub f ONE))) (fdiv (fsub f ONE) (fadd TWO (fsub f ONE))))) (fmul (fdiv (fsub f ONE) (fadd TWO (fsub f ONE))) (fdiv (fsub f ONE) (fadd TWO (fsub f ONE))))))
def logZ (f : Nat) (k : Int) : Nat := if k = 0 then logY f else fadd (fmul (fint k) LL) (fadd (logY f) (fmul (fint k) ll))
/-! ### the sum over powers of z -/
theorem log_step {z p c : Nat} (hz : ng z = false) (hz2 : mant z ≤ W116) (hp : ng p = false) (hp2 : mant p ≤ HALF) (hc : ng c = false) (hc2 : mant c ≤ W38) : ng (fadd (fmul p z) c) = false ∧ mant (fadd (fmul p z) c) ≤ HALF := by
  obtain ⟨_, _, _, _, _, _, l116, l132, _, l38, _⟩ := kn_lt
  obtain ⟨_, _, _, _, _, _, v116, v132, _⟩ := kn_fv
  obtain ⟨v38, _⟩ := kn_fv2
  have vh := fv_HALF
  obtain ⟨q1, q2⟩ := le_mul (C := W132) hp2 hz2 HALF_lt l116 l132 (by
    have e : fv HALF * fv W116 * 32 = fv W132 * OO * 32 := by
      have e1 : fv HALF * fv W116 * 32 = fv HALF * 2 * (fv W116 * 16) := by grind
      have e2 : fv W132 * OO * 32 = fv W132 * 32 * OO := by grind
      rw [e1, e2, vh, v116, v132]
    omega)
  rw [hp, hz] at q1
  have hO := OO_pos
  refine ⟨?_, le_add q2 hc2 l132 l38 HALF_lt (by omega)⟩
  obtain ⟨_, g1, _, g3⟩ := fadd_fin (fld_of q2 l132) (fld_of hc2 l38)
  have i1 := iv_pos (b := fmul p z) q1
  have i2 := iv_pos hc
  rcases Int.lt_or_le 0 (iv (fmul p z) + iv c) with h | h
  · exact g1 h
  · exact g3 q1 (by omega)
theorem log_fold {z : Nat} (hz : ng z = false) (hz2 : mant z ≤ W116) : ∀ (cs : List Nat) (p : Nat), (∀ c ∈ cs, ng c = false ∧ mant c ≤ W38) → ng p = false → mant p ≤ HALF →
    ng (cs.foldl (fun p c => fadd (fmul p z) c) p) = false ∧ mant (cs.foldl (fun p c => fadd (fmul p z) c) p) ≤ HALF := by
  intro cs
  induction cs with
  | nil => intro p _ h1 h2; exact ⟨h1, h2⟩
  | cons c cs ih =>
    intro p hall hp hp2
    obtain ⟨h1, h2⟩ := hall c (by simp)
    obtain ⟨s1, s2⟩ := log_step hz hz2 hp hp2 h1 h2
    exact ih _ (fun x hx => hall x (by simp [hx])) s1 s2
theorem logP_ok {z : Nat} (hz : ng z = false) (hz2 : mant z ≤ W116) : ng (logP z) = false ∧ mant (logP z) ≤ HALF := by
  refine log_fold hz hz2 logC _ ?_ (by decide +kernel) (by decide +kernel)
  decide +kernel
/-! ### the logarithm near 1 -/
/-- from s on: s a double that is not 0, at most a quarter -/
theorem log_from {s : Nat} (h1 : mant s ≤ W14) (h0 : 0 < vl s) :
    mant (fadd (fadd s s) (fmul (fadd s s) (fmul (logP (fmul s s)) (fmul s s)))) ≤ W3364 ∧ ng (fadd (fadd s s) (fmul (fadd s s) (fmul (logP (fmul s s)) (fmul s s)))) = ng s ∧ 0 < mant (fadd (fadd s s) (fmul (fadd s s) (fmul (logP (fmul s s)) (fmul s s)))) := by
  obtain ⟨_, _, _, _, _, l14, l116, l132, l164, _, l3364, _⟩ := kn_lt
  obtain ⟨_, _, _, _, _, v14, v116, v132, v164⟩ := kn_fv
  obtain ⟨_, v3364, _⟩ := kn_fv2
  obtain ⟨_, _, _, _, _, one1, one2⟩ := kn_parts
  have vh := fv_HALF
  have hO := OO_pos
  have fs := fld_of h1 l14
  -- z
  obtain ⟨z1, z2⟩ := le_mul (C := W116) h1 h1 l14 l14 l116 (by
    have e1 : fv W14 * fv W14 * 16 = fv W14 * 4 * (fv W14 * 4) := by grind
    have e2 : fv W116 * OO * 16 = fv W116 * 16 * OO := by grind
    rw [v14] at e1
    rw [v116] at e2
    omega)
  rw [show (ng s != ng s) = false by cases ng s <;> rfl] at z1
  generalize fmul s s = z at *
  obtain ⟨p1, p2⟩ := logP_ok z1 z2
  generalize logP z = p at *
  -- p z
  obtain ⟨q1, q2⟩ := le_mul (C := W132) p2 z2 HALF_lt l116 l132 (by
    have e1 : fv HALF * fv W116 * 32 = fv HALF * 2 * (fv W116 * 16) := by grind
    have e2 : fv W132 * OO * 32 = fv W132 * 32 * OO := by grind
    rw [vh, v116] at e1
    rw [v132] at e2
    omega)
  rw [p1, z1] at q1
  generalize fmul p z = q at *
  -- u
  obtain ⟨u1, u2, u3, _⟩ := fadd_fin fs fs
  have hu : mant (fadd s s) ≤ HALF := le_add h1 h1 l14 l14 HALF_lt (by omega)
  have hia := iv_abs s
  have hun : ng (fadd s s) = ng s := by
    cases hs : ng s
    · have := iv_pos hs; exact u2 (by omega)
    · have := iv_neg hs; exact u3 (by omega)
  have hu0 : 1 ≤ mant (fadd s s) := by
    rw [u1]; exact mag_from (by omega) one2 (by rw [one1]; omega)
  generalize fadd s s = u at *
  have hvu : 0 < vl u := by
    have := fv_mono (a := 1) (b := mant u) (by have := mag_le (iv s + iv s).natAbs 1; have h9 := Nat.lt_of_le_of_lt hu HALF_lt; exact h9) hu0
    rw [one1] at this
    exact this
  -- u p z
  obtain ⟨r1, r2⟩ := le_mul (C := W164) hu q2 HALF_lt l132 l164 (by
    have e1 : fv HALF * fv W132 * 64 = fv HALF * 2 * (fv W132 * 32) := by grind
    have e2 : fv W164 * OO * 64 = fv W164 * 64 * OO := by grind
    rw [vh, v132] at e1
    rw [v164] at e2
    omega)
  rw [q1, bne_false'] at r1
  generalize fmul u q = r at *
  obtain ⟨y1, y2, y3, _⟩ := fadd_fin (fld_of hu HALF_lt) (fld_of r2 l164)
  have hiu := iv_abs u
  refine ⟨le_add hu r2 HALF_lt l164 l3364 (by omega), ?_, ?_⟩
  · cases hs : ng s
    · rw [hs] at hun
      rw [hun] at r1
      have := iv_pos hun
      have := iv_pos r1
      exact y2 (by omega)
    · rw [hs] at hun
      rw [hun] at r1
      have := iv_neg hun
      have := iv_neg r1
      exact y3 (by omega)
  · rw [y1]
    refine mag_from (c := 1) (by omega) one2 ?_
    rw [one1]
    cases hs : ng s
    · rw [hs] at hun
      rw [hun] at r1
      have := iv_pos hun
      have := iv_pos r1
      omega
    · rw [hs] at hun
      rw [hun] at r1
      have := iv_neg hun
      have := iv_neg r1
      omega
/-- s: t over 2 + t -/
theorem log_quot {t : Nat} {up : Bool} (ht : mant t ≤ (if up then HALF else W516)) (hn : ng t = !up) (h0 : HH ≤ vl t) : mant (fdiv t (fadd TWO t)) ≤ W14 ∧ ng (fdiv t (fadd TWO t)) = ng t ∧ 0 < vl (fdiv t (fadd TWO t)) := by
  obtain ⟨_, lTWO, _, l32, l516, l14, _, _, _, _, _, _, _, _, l55, l4⟩ := kn_lt
  obtain ⟨_, vTWO, _, v32, v516, v14, _⟩ := kn_fv
  obtain ⟨_, _, _, _, _, v55, v4, _⟩ := kn_fv2
  obtain ⟨_, _, n2, m2, _, one1, one2⟩ := kn_parts
  have vh := fv_HALF
  have hO := OO_pos
  have hH := HH_pos
  have ht2 : mant t ≤ HALF := by
    cases up
    · exact Nat.le_trans ht (by decide +kernel)
    · exact ht
  have ft := fld_of ht2 HALF_lt
  have f2 := fld_of (Nat.le_of_eq m2) lTWO
  obtain ⟨d1, d2, _, _⟩ := fadd_fin f2 ft
  have hi2 : iv TWO = 2 * OO := by rw [iv_pos n2]; unfold vl; rw [m2, vTWO]; omega
  have hvt := vl_le ht2 HALF_lt
  have hit := iv_abs t
  have hdn : ng (fadd TWO t) = false := d2 (by omega)
  -- the divisor's size, and the quotient's
  have hden : mant (fadd TWO t) ≤ W4 := by rw [d1]; exact mag_upto (by omega) l4 (by omega)
  have fd := fld_of hden l4
  have hvd := vl_le hden l4
  have hcore : 0 < vl (fadd TWO t) ∧ vl t * OO ≤ fv W14 * vl (fadd TWO t) := by
    cases up
    · have ht3 : mant t ≤ W516 := ht
      have hvt2 := vl_le ht3 l516
      have hlow : W32 ≤ mant (fadd TWO t) := by rw [d1]; exact mag_from (by omega) l32 (by omega)
      have hvl : fv W32 ≤ vl (fadd TWO t) := fv_mono (Nat.lt_of_le_of_lt hden l4) hlow
      refine ⟨by omega, ?_⟩
      refine Nat.le_trans (Nat.mul_le_mul_right OO hvt2) (Nat.le_trans ?_ (Nat.mul_le_mul_left _ hvl))
      have e1 : fv W516 * OO * 16 = fv W516 * 16 * OO := by grind
      have e2 : fv W14 * fv W32 * 8 = fv W14 * 4 * (fv W32 * 2) := by grind
      rw [v516] at e1
      rw [v14, v32] at e2
      have e3 : OO * (3 * OO) = 3 * (OO * OO) := by grind
      have e4 : 5 * OO * OO = 5 * (OO * OO) := by grind
      omega
    · have hvt2 := vl_le ht2 HALF_lt
      have hni : iv t = vl t := iv_pos hn
      have hlow : TWO ≤ mant (fadd TWO t) := by rw [d1]; exact mag_from (by omega) lTWO (by omega)
      have hvl : fv TWO ≤ vl (fadd TWO t) := fv_mono (Nat.lt_of_le_of_lt hden l4) hlow
      refine ⟨by omega, ?_⟩
      refine Nat.le_trans (Nat.mul_le_mul_right OO hvt2) (Nat.le_trans ?_ (Nat.mul_le_mul_left _ hvl))
      have e1 : fv HALF * OO * 2 = fv HALF * 2 * OO := by grind
      have e2 : fv W14 * fv TWO * 2 = fv W14 * 4 * OO := by rw [vTWO]; grind
      rw [vh] at e1
      rw [v14] at e2
      omega
  rw [fdiv_fin ft fd hcore.1, hdn, bne_false']
  obtain ⟨g1, g2⟩ := sg_parts (s := ng t) (mag_le (vl t * OO) (vl (fadd TWO t)))
  have hup : mag (vl t * OO) (vl (fadd TWO t)) ≤ W14 := mag_upto hcore.1 l14 hcore.2
  have hlo : W55 ≤ mag (vl t * OO) (vl (fadd TWO t)) := by
    refine mag_from hcore.1 l55 ?_
    refine Nat.le_trans (Nat.mul_le_mul_left _ hvd) (Nat.le_trans ?_ (Nat.mul_le_mul_right OO h0))
    rw [v4]
    have e1 : fv W55 * (4 * OO) = fv W55 * 4 * OO := by grind
    rw [e1, v55]
    exact Nat.le_refl _
  rw [g1, g2]
  refine ⟨hup, rfl, ?_⟩
  rw [show vl (sg (ng t) (mag (vl t * OO) (vl (fadd TWO t)))) = fv (mant (sg (ng t) (mag (vl t * OO) (vl (fadd TWO t))))) from rfl, g2]
  have := fv_mono (Nat.lt_of_le_of_lt hup l14) hlo
  omega
theorem logY_ok {f : Nat} (h1 : W1116 ≤ f) (h2 : f ≤ W32) : mant (logY f) ≤ W3364 ∧ (f = ONE → logY f = 0) ∧ (f ≠ ONE → ng (logY f) = decide (f < ONE) ∧ 0 < mant (logY f)) := by
  obtain ⟨lONE, _, l1116, l32, l516, _, _, _, _, _, l3364, _, _, l53, _⟩ := kn_lt
  obtain ⟨vONE, _, v1116, v32, v516, _⟩ := kn_fv
  obtain ⟨_, _, _, _, v53, _, _, _, _, vup, vdn⟩ := kn_fv2
  obtain ⟨n1, m1, _, _, o64, one1, one2⟩ := kn_parts
  have vh := fv_HALF
  have hO := OO_pos
  have hH := HH_pos
  by_cases he : f = ONE
  · subst he
    have hz : logY ONE = 0 := by decide +kernel
    rw [hz]
    exact ⟨by decide +kernel, fun _ => rfl, fun h => absurd rfl h⟩
  · have hI := INF_lit
    have hf63 : f < INF := by omega
    have hmf : mant f = f := by unfold mant; omega
    have hnf : ng f = false := by unfold ng; exact decide_eq_false (by omega)
    have ff := fld_of (Nat.le_of_eq hmf) hf63
    have fo := fld_of (Nat.le_of_eq m1) lONE
    have hvf : vl f = fv f := by unfold vl; rw [hmf]
    have hif : iv f = fv f := by rw [iv_pos hnf, hvf]
    have hio : iv ONE = OO := by rw [iv_pos n1]; unfold vl; rw [m1, vONE]
    obtain ⟨t1, t2, t3, _⟩ := fsub_fin o64 ff fo
    rw [hif, hio] at t1 t2 t3
    have hle := fv_mono l32 h2
    have hge := fv_mono hf63 h1
    have key : ∃ up : Bool, mant (fsub f ONE) ≤ (if up then HALF else W516) ∧ ng (fsub f ONE) = !up ∧ HH ≤ vl (fsub f ONE) ∧ decide (f < ONE) = !up := by
      rcases Nat.lt_or_gt_of_ne he with hl | hl
      · have hmo := fv_mono (b := ONE - 1) (by omega) (show f ≤ ONE - 1 by omega)
        have hm : mant (fsub f ONE) ≤ W516 := by rw [t1]; exact mag_upto (by omega) l516 (by omega)
        have hlo : W53 ≤ mant (fsub f ONE) := by rw [t1]; exact mag_from (by omega) l53 (by omega)
        refine ⟨false, hm, t3 (by omega), ?_, decide_eq_true hl⟩
        have := fv_mono (Nat.lt_of_le_of_lt hm l516) hlo
        rw [v53] at this
        exact this
      · have hmo := fv_mono (a := ONE + 1) hf63 hl
        have hm : mant (fsub f ONE) ≤ HALF := by rw [t1]; exact mag_upto (by omega) HALF_lt (by omega)
        have hlo : W53 ≤ mant (fsub f ONE) := by rw [t1]; exact mag_from (by omega) l53 (by omega)
        refine ⟨true, hm, t2 (by omega), ?_, decide_eq_false (by omega)⟩
        have := fv_mono (Nat.lt_of_le_of_lt hm HALF_lt) hlo
        rw [v53] at this
        exact this
    obtain ⟨upb, k1, k2, k3, k4⟩ := key
    obtain ⟨s1, s2, s3⟩ := log_quot k1 k2 k3
    obtain ⟨y1, y2, y3⟩ := log_from s1 s3
    unfold logY
    exact ⟨y1, fun h => absurd h he, fun _ => ⟨by rw [y2, s2, k2, k4], y3⟩⟩
theorem logZ_ok {f : Nat} {k : Int} (h1 : W1116 ≤ f) (h2 : f ≤ W32) (hk0 : k ≠ 0) (hk : k.natAbs ≤ 1077) : ng (logZ f k) = decide (k < 0) ∧ 0 < mant (logZ f k) ∧ fld (logZ f k) < 2047 := by
  obtain ⟨_, _, _, _, _, _, _, _, _, _, l3364, l3464, _⟩ := kn_lt
  obtain ⟨_, v3364, v3464, v4464, _, _, _, vt, v44, _⟩ := kn_fv2
  obtain ⟨_, _, _, _, _, one1, one2⟩ := kn_parts
  have hO := OO_pos
  obtain ⟨y1, _, _⟩ := logY_ok h1 h2
  unfold logZ
  rw [if_neg hk0]
  generalize logY f = y at *
  obtain ⟨a1, a2, a3⟩ := fmul_LL hk
  obtain ⟨b1, _, _⟩ := fint_fin hk
  obtain ⟨l1, l2, _⟩ := ll_parts
  have hnl := (le_mul b1 (Nat.le_of_eq l2) W1077_lt ll_lt WTINY_lt tiny_ok).2
  have hc : mant (fadd y (fmul (fint k) ll)) ≤ W3464 := le_add y1 hnl l3364 WTINY_lt l3464 (by omega)
  generalize fadd y (fmul (fint k) ll) = c at *
  generalize fmul (fint k) LL = a at *
  have fc := fld_of hc l3464
  have hvc := vl_le hc l3464
  obtain ⟨q1, q2, q3, _⟩ := fadd_fin a3 fc
  have hva : fv LL ≤ vl a := by
    rw [a1]
    have : 1 * fv LL ≤ k.natAbs * fv LL := Nat.mul_le_mul_right _ (by omega)
    omega
  have hvb : vl a ≤ 1077 * fv LL := by rw [a1]; exact Nat.mul_le_mul_right _ hk
  have hL : 1077 * fv LL + fv W3464 ≤ fv W1077 := by decide +kernel
  have hia := iv_abs a
  have hic := iv_abs c
  have hsign : (decide (k < 0) = true → iv a = -(vl a : Int)) ∧ (decide (k < 0) = false → iv a = vl a) := by
    rw [← a2]
    exact ⟨fun h => iv_neg h, fun h => iv_pos h⟩
  refine ⟨?_, ?_, ?_⟩
  · cases hd : decide (k < 0)
    · have := hsign.2 hd; exact q2 (by omega)
    · have := hsign.1 hd; exact q3 (by omega)
  · rw [q1]
    refine mag_from (c := 1) (by omega) one2 ?_
    rw [one1]
    cases hd : decide (k < 0)
    · have := hsign.2 hd; omega
    · have := hsign.1 hd; omega
  · refine fld_of (A := W1077) ?_ W1077_lt
    rw [q1]
    exact mag_upto (by omega) W1077_lt (by omega)
/-! ### the whole -/
def lf0 (x : Nat) : Nat := 4602678819172646912 + sig x * 2 ^ (53 - blen (sig x))
def lk0 (x : Nat) : Int := xpo x + blen (sig x) - 1
def lf (x : Nat) : Nat := if RR < lf0 x then lf0 x - 4503599627370496 else lf0 x
def lk (x : Nat) : Int := if RR < lf0 x then lk0 x + 1 else lk0 x
def flog (x : Nat) : Nat := if kd x = 0 then sg true INF else if kd x = 4 ∨ ng x = true then NAN else if kd x = 3 then x else logZ (lf x) (lk x)
theorem lf0_range {x : Nat} (h : 0 < sig x) : 4607182418800017408 ≤ lf0 x ∧ lf0 x < 4611686018427387904 := by
  have h1 := blen_self h
  have h0 := blen_pos h
  have h2 := sig_blen x
  have h3 := blen_lt (sig x)
  unfold lf0
  have a1 : 2 ^ (blen (sig x) - 1) * 2 ^ (53 - blen (sig x)) ≤ sig x * 2 ^ (53 - blen (sig x)) := Nat.mul_le_mul_right _ h1
  have a2 : sig x * 2 ^ (53 - blen (sig x)) < 2 ^ blen (sig x) * 2 ^ (53 - blen (sig x)) := Nat.mul_lt_mul_of_pos_right h3 (Nat.two_pow_pos _)
  rw [← Nat.pow_add, show blen (sig x) - 1 + (53 - blen (sig x)) = 52 by omega] at a1
  rw [← Nat.pow_add, show blen (sig x) + (53 - blen (sig x)) = 53 by omega] at a2
  omega
/-- where x lies, by its exponent -/
theorem lk_cases {x : Nat} (hx : x < 18446744073709551616) (hk : kd x = 1 ∨ kd x = 2) (hn : ng x = false) :
    (lk0 x < 0 ↔ x < 4607182418800017408) ∧ -1074 ≤ lk0 x ∧ lk0 x ≤ 1023 ∧ (lk0 x = 0 → lf0 x = x) ∧ (lk0 x = -1 → lf0 x = x + 4503599627370496) := by
  have hp := sig_pos hk
  have hsb := sig_blen x
  have hb0 := blen_pos hp
  have hm := sg_mant x hx
  rw [hn, sg_false] at hm
  have hmf := mant_fld x
  rw [hm, B52_eq] at hmf
  have hf : fld x < 2047 := (kd_cases x).2.1 (by omega)
  have hr := rst_lt x
  have hdm := Nat.div_add_mod' x 4503599627370496
  rw [hmf.1, hmf.2] at hdm
  by_cases h0 : fld x = 0
  · have hs : sig x = rst x := by unfold sig; rw [if_pos h0]
    have hxp : xpo x = -1074 := by unfold xpo; rw [if_pos h0]
    have hbl : blen (sig x) ≤ 52 := by rw [hs]; exact blen_le (by omega)
    unfold lk0
    rw [hxp]
    rw [h0, Nat.zero_mul] at hdm
    refine ⟨⟨fun _ => by omega, fun _ => by omega⟩, by omega, by omega, fun h => by omega, fun h => by omega⟩
  · have hs : sig x = rst x + 4503599627370496 := by unfold sig; rw [if_neg h0]
    have hxp : xpo x = (fld x : Int) - 1075 := by unfold xpo; rw [if_neg h0]
    have hbl : blen (sig x) = 53 := by rw [hs]; exact blen_unique (k := 52) (by omega) (by omega)
    have hl : lk0 x = (fld x : Int) - 1023 := by unfold lk0; rw [hxp, hbl]; omega
    have hlf : lf0 x = 4602678819172646912 + (rst x + 4503599627370496) := by unfold lf0; rw [hbl, hs, Nat.sub_self, Nat.pow_zero, Nat.mul_one]
    rw [hl, hlf]
    refine ⟨⟨fun h => ?_, fun h => ?_⟩, by omega, by omega, fun h => ?_, fun h => ?_⟩
    · have : fld x ≤ 1022 := by omega
      have := Nat.mul_le_mul_right 4503599627370496 this
      omega
    · rcases Nat.lt_or_ge (fld x) 1023 with h9 | h9
      · omega
      · have := Nat.mul_le_mul_right 4503599627370496 h9
        omega
    · have : fld x = 1023 := by omega
      rw [this] at hdm
      omega
    · have : fld x = 1022 := by omega
      rw [this] at hdm
      omega
theorem flog_sign {x : Nat} (hx : x < 18446744073709551616) (hk : kd x = 1 ∨ kd x = 2) (hn : ng x = false) :
    kd (flog x) ≠ 4 ∧ ng (flog x) = decide (x < 4607182418800017408) ∧ (kd (flog x) = 0 ↔ x = 4607182418800017408) := by
  have hp := sig_pos hk
  obtain ⟨r1, r2⟩ := lf0_range hp
  obtain ⟨c1, c2, c3, c4, c5⟩ := lk_cases hx hk hn
  have hR : RR = 4609047870845172685 := by unfold RR; rfl
  have hO : ONE = 4607182418800017408 := by unfold ONE; rfl
  have hA : W1116 = 4604367669032910848 := by unfold W1116; rfl
  have hB : W32 = 4609434218613702656 := by unfold W32; rfl
  have hf1 : W1116 ≤ lf x ∧ lf x ≤ W32 := by unfold lf; rw [hR, hA, hB]; split <;> omega
  have e : flog x = logZ (lf x) (lk x) := by
    unfold flog
    rw [if_neg (by omega), if_neg (by rw [hn]; simp; omega), if_neg (by omega)]
  rw [e]
  have hklim : (lk x).natAbs ≤ 1077 := by unfold lk; split <;> omega
  have hsz : ∀ q, fld q < 2047 → 0 < mant q → kd q ≠ 4 ∧ kd q ≠ 0 := by
    intro q h1 h2
    have := kd_of h1
    exact ⟨by omega, fun h => by have := mant_zero h; omega⟩
  by_cases hk0 : lk x = 0
  · have hxf : lf x = x := by
      unfold lf lk at *
      by_cases h : RR < lf0 x
      · rw [if_pos h] at hk0 ⊢
        have := c5 (by omega)
        omega
      · rw [if_neg h] at hk0 ⊢
        exact c4 hk0
    unfold logZ
    rw [if_pos hk0, hxf]
    rw [hxf] at hf1
    obtain ⟨y1, y2, y3⟩ := logY_ok hf1.1 hf1.2
    rw [hO] at y2 y3
    by_cases h1 : x = 4607182418800017408
    · rw [y2 h1]
      refine ⟨by decide, ?_, fun _ => h1, fun _ => by decide⟩
      rw [decide_eq_false (by omega)]
      decide
    · obtain ⟨y4, y5⟩ := y3 h1
      obtain ⟨_, _, _, _, _, _, _, _, _, _, l3364, _⟩ := kn_lt
      obtain ⟨z1, z2⟩ := hsz _ (fld_of y1 l3364) y5
      exact ⟨z1, y4, fun h => absurd h z2, fun h => absurd h h1⟩
  · obtain ⟨z1, z2, z3⟩ := logZ_ok hf1.1 hf1.2 hk0 hklim
    obtain ⟨w1, w2⟩ := hsz _ z3 z2
    have hdec : decide (lk x < 0) = decide (x < 4607182418800017408) := by
      rw [Bool.eq_iff_iff]
      simp only [decide_eq_true_eq]
      rw [← c1]
      unfold lk at hk0 ⊢
      split <;> rename_i h
      · rw [if_pos h] at hk0; omega
      · omega
    refine ⟨w1, by rw [z1, hdec], fun h => absurd h w2, fun h => ?_⟩
    exfalso
    apply hk0
    -- x = 1: k is 0
    have h0 : lk0 x = 0 := by
      have hb : lk0 4607182418800017408 = 0 := by decide +kernel
      rw [h]; exact hb
    have h1 := c4 h0
    unfold lk
    rw [if_neg (by rw [hR, h1, h]; omega)]
    exact h0

end Go.Proofs.YtmoahgiklgicgaaDoor

namespace Go.Proofs.YtmoahgiklgicgaaDoor
set_option maxRecDepth 100000
open Go.RowKit
set_option linter.unusedVariables false
set_option linter.unusedSimpArgs false

/-! ### tables and sums -/
/-- the factorials of 0 to 13 -/
def facL : List Int := [1, 1, 2, 6, 24, 120, 720, 5040, 40320, 362880, 3628800, 39916800, 479001600, 6227020800]
def inv1 (n : Int) : Nat := fdiv (fint 1) (fint n)
theorem int_1 : fint 1 = ONE := by decide +kernel
theorem int_2 : fint 2 = TWO := by decide +kernel
theorem exp_tab : ∀ i, i < 13 → inv1 (facL.getD (12 - i) 0) = expC.getD i 0 := by decide +kernel
theorem exp_tab0 : inv1 6227020800 = 4460272573143870729 := by decide +kernel
theorem log_tab : ∀ i : Nat, i < 9 → inv1 (19 - 2 * (i : Int)) = logC.getD i 0 := by decide +kernel
theorem log_tab0 : inv1 21 = 4587023449039406616 := by decide +kernel
theorem fac_step : ∀ i : Nat, i < 13 → facL.getD (i + 1) 0 = facL.getD i 0 * ((i : Int) + 1) := by decide +kernel
theorem fac_le : ∀ i, i < 14 → 1 ≤ facL.getD i 0 ∧ facL.getD i 0 ≤ 6227020800 := by decide +kernel
theorem expC_lt : ∀ i, i < 13 → expC.getD i 0 < 18446744073709551616 := by decide +kernel
theorem logC_lt : ∀ i, i < 9 → logC.getD i 0 < 18446744073709551616 := by decide +kernel
theorem fold_next (cs : List Nat) (f : Nat → Nat → Nat) (a : Nat) {i : Nat} (h : i < cs.length) : (cs.take (i + 1)).foldl f a = f ((cs.take i).foldl f a) (cs.getD i 0) := by
  rw [List.take_add_one, List.foldl_append, List.getElem?_eq_getElem h]
  simp [List.getD, List.getElem?_eq_getElem h]
def expS (r i : Nat) : Nat := (expC.take i).foldl (fun p c => fadd (fmul p r) c) 4460272573143870729
def logS (z i : Nat) : Nat := (logC.take i).foldl (fun p c => fadd (fmul p z) c) 4587023449039406616
theorem expS_0 (r : Nat) : expS r 0 = 4460272573143870729 := rfl
theorem logS_0 (z : Nat) : logS z 0 = 4587023449039406616 := rfl
theorem expS_end (r : Nat) : expS r 13 = expP r := rfl
theorem logS_end (z : Nat) : logS z 9 = logP z := rfl
theorem expS_next (r : Nat) {i : Nat} (h : i < 13) : expS r (i + 1) = fadd (fmul (expS r i) r) (expC.getD i 0) := fold_next expC _ _ h
theorem logS_next (z : Nat) {i : Nat} (h : i < 9) : logS z (i + 1) = fadd (fmul (logS z i) z) (logC.getD i 0) := fold_next logC _ _ h
theorem expS_lt (r : Nat) {i : Nat} (h : i ≤ 13) : expS r i < 18446744073709551616 := by
  rcases Nat.eq_zero_or_pos i with rfl | h0
  · rw [expS_0]; omega
  · obtain ⟨j, rfl⟩ : ∃ j, i = j + 1 := ⟨i - 1, by omega⟩
    rw [expS_next r (by omega)]
    exact fadd_lt (fmul_lt _ _) (expC_lt j (by omega))
theorem logS_lt (z : Nat) {i : Nat} (h : i ≤ 9) : logS z i < 18446744073709551616 := by
  rcases Nat.eq_zero_or_pos i with rfl | h0
  · rw [logS_0]; omega
  · obtain ⟨j, rfl⟩ : ∃ j, i = j + 1 := ⟨i - 1, by omega⟩
    rw [logS_next z (by omega)]
    exact fadd_lt (fmul_lt _ _) (logC_lt j (by omega))
/-! ### constants -/
theorem PP_lit : PP = 4609176140021203710 := by unfold PP; rfl
theorem LL_lit : LL = 4604418534311723008 := by unfold LL; rfl
theorem ll_lit : ll = 4461442080421002358 := by unfold ll; rfl
theorem ONE_lit : ONE = 4607182418800017408 := by unfold ONE; rfl
theorem TWO_lit : TWO = 4611686018427387904 := by unfold TWO; rfl
theorem RR_lit : RR = 4609047870845172685 := by unfold RR; rfl
/-! ### times powers of 2 -/
theorem sig_word {b : Nat} (f : fld b < 2047) : magR (sig b) 1 (xpo b) = mant b := by
  obtain ⟨h1, h2⟩ := xpo_range f
  rw [(magR_at (m := sig b) (e := xpo b) (s := (xpo b + 1074).toNat) (by omega)).1, ← vl_eq]
  exact mag_fv (mant_lt f)
theorem pos_word {b : Nat} (hb : b < 18446744073709551616) (n : ng b = false) : mant b = b := by
  have := sg_mant b hb
  rw [n, sg_false] at this
  exact this
/-- a double that is m * 2^e just so, and the same times another power -/
theorem scale_twice {m : Nat} {e : Int} (hm : m < 9007199254740992) (h1 : -1074 ≤ e) (h2 : e ≤ 971) (t : Int) :
    magR m 1 e < INF ∧ fld (magR m 1 e) < 2047 ∧ ng (magR m 1 e) = false ∧ fv (magR m 1 e) = m * 2 ^ (e + 1074).toNat ∧ fscale (magR m 1 e) t = magR m 1 (e + t) := by
  obtain ⟨s, hs⟩ : ∃ s : Nat, e + 1074 = s := ⟨(e + 1074).toNat, by omega⟩
  have hx := ex_any (x := m) (s := s) (by rw [B52_eq]; omega) (by omega)
  obtain ⟨v1, v2⟩ := ex_val hx
  have e1 := (magR_at (m := m) hs).1
  rw [← e1] at v1 v2
  clear e1 hx
  rw [show (e + 1074).toNat = s by omega]
  generalize magR m 1 e = b at *
  have hI := INF_lit
  have hb : mant b = b := by unfold mant; omega
  have hf : fld b < 2047 := fld_of (Nat.le_of_eq hb) v2
  have hn : ng b = false := by unfold ng; exact decide_eq_false (by omega)
  have hv := vl_eq b
  have hvl : vl b = fv (mant b) := rfl
  rw [hvl, hb, v1] at hv
  obtain ⟨x1, x2⟩ := xpo_range hf
  refine ⟨v2, hf, hn, v1, ?_⟩
  have hsc : fscale b t = magR (sig b) 1 (xpo b + t) := by
    unfold fscale
    rw [if_pos hf, hn, sg_false]
  rw [hsc]
  exact magR_eq (a := (xpo b + 1074).toNat) (b := s) (by omega) (by omega) (by rw [Nat.mul_one, Nat.mul_one, ← hv]) (by omega)
theorem fless_pos {a b : Nat} (fa : fld a < 2047) (fb : fld b < 2047) (na : ng a = false) (nb : ng b = false) : fless a b = decide (a < b) := by
  have k1 := kd_of fa
  have k2 := kd_of fb
  unfold fless
  rw [if_neg (by omega), na, nb]
  simp
theorem one_parts : fld ONE < 2047 ∧ ng ONE = false ∧ fld TWO < 2047 ∧ ng TWO = false ∧ fld RR < 2047 ∧ ng RR = false := by decide +kernel
/-- where a double lies, by its digits -/
theorem log_where {m : Nat} {e : Int} (h0 : 0 < m) (hm : m < 9007199254740992) (h1 : -1074 ≤ e) (h2 : e ≤ 971) :
    fless (magR m 1 e) ONE = decide ((blen m : Int) + e ≤ 0) ∧ fless (magR m 1 e) TWO = decide ((blen m : Int) + e ≤ 1) := by
  obtain ⟨a1, a2, a3, a4, _⟩ := scale_twice hm h1 h2 0
  obtain ⟨o1, o2, o3, o4, _, _⟩ := one_parts
  obtain ⟨l1, l2, _⟩ := kn_lt
  obtain ⟨f1, f2, _⟩ := kn_fv
  rw [fless_pos a2 o1 a3 o2, fless_pos a2 o3 a3 o4]
  have hK := K74_eq
  have key : ∀ c, c < INF → (magR m 1 e < c ↔ fv (magR m 1 e) < fv c) := by
    intro c hc
    refine ⟨fun h => fv_lt a1 hc h, fun h => ?_⟩
    rcases Nat.lt_or_ge (magR m 1 e) c with h9 | h9
    · exact h9
    · have := fv_mono a1 h9
      omega
  have hb := blen_mul_pow h0 (e + 1074).toNat
  have two : 2 * OO = 2 ^ (K74 + 1) := by rw [OO_eq, Nat.pow_succ]; omega
  have cmp : ∀ k : Nat, (m * 2 ^ (e + 1074).toNat < 2 ^ k ↔ blen m + (e + 1074).toNat ≤ k) := by
    intro k
    rw [← hb]
    refine ⟨fun h => blen_le h, fun h => Nat.lt_of_lt_of_le (blen_lt _) (Nat.pow_le_pow_right (by omega) h)⟩
  constructor
  · rw [Bool.eq_iff_iff, decide_eq_true_eq, decide_eq_true_eq, key _ l1, a4, f1, OO_eq, cmp]
    omega
  · rw [Bool.eq_iff_iff, decide_eq_true_eq, decide_eq_true_eq, key _ l2, a4, f2, two, cmp]
    omega
theorem lf0_word {x : Nat} (h : 0 < sig x) : magR (sig x) 1 (1 - (blen (sig x) : Int)) = lf0 x ∧ fscale (lf0 x) (-1) = lf0 x - 4503599627370496 ∧ fless RR (lf0 x) = decide (RR < lf0 x) ∧ lf0 x < 18446744073709551616 := by
  obtain ⟨r1, r2⟩ := lf0_range h
  have hsb := sig_blen x
  have hb0 := blen_pos h
  have hI := INF_lit
  have hf : fld (lf0 x) = 1023 := by unfold fld; omega
  have hr : rst (lf0 x) = lf0 x - 4607182418800017408 := by unfold rst; omega
  have hs : sig (lf0 x) = sig x * 2 ^ (53 - blen (sig x)) := by
    unfold sig
    rw [if_neg (by omega), hr]
    show lf0 x - 4607182418800017408 + 4503599627370496 = _
    have : lf0 x = 4602678819172646912 + sig x * 2 ^ (53 - blen (sig x)) := rfl
    unfold sig at this
    omega
  have hx : xpo (lf0 x) = -52 := by unfold xpo; rw [if_neg (by omega), hf]; omega
  have hn : ng (lf0 x) = false := by unfold ng; exact decide_eq_false (by omega)
  have hm : mant (lf0 x) = lf0 x := by unfold mant; omega
  have w1 := sig_word (b := lf0 x) (by omega)
  rw [hs, hx, magR_shift _ _ _ (by omega), hm] at w1
  obtain ⟨_, _, _, _, o5, o6⟩ := one_parts
  refine ⟨?_, ?_, fless_pos o5 (by omega) o6 hn, by omega⟩
  · rw [← w1]; congr 1; omega
  · unfold fscale
    rw [if_pos (by omega), hn, sg_false, hs, hx]
    have hf2 : fld (lf0 x - 4503599627370496) = 1022 := by unfold fld; omega
    have hr2 : rst (lf0 x - 4503599627370496) = lf0 x - 4607182418800017408 := by unfold rst; omega
    have hs2 : sig (lf0 x - 4503599627370496) = sig (lf0 x) := by unfold sig; rw [if_neg (by omega), if_neg (by omega), hr2, hr]
    have hx2 : xpo (lf0 x - 4503599627370496) = -53 := by unfold xpo; rw [if_neg (by omega), hf2]; omega
    have w2 := sig_word (b := lf0 x - 4503599627370496) (by omega)
    rw [hs2, hs, hx2, show mant (lf0 x - 4503599627370496) = lf0 x - 4503599627370496 by unfold mant; omega] at w2
    exact w2

end Go.Proofs.YtmoahgiklgicgaaDoor
