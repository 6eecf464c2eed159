/-
  What gradinelaw15.Many, gradineplain.Longer, gradinelaw16.Few, gradineref16.Same (of lists that read alike) and gradinelaw16.same return. Conditions: the slices read as lists; for same: the variable factorials holds the factorials of 0 to 13.
-/
import Derived.Test.YtfhihapgjiaobaaGreatTgLOneB
import Derived.Test.YtfhihapgjiaobaaGreatNatMathOneB
import Derived.Test.YtfhihapgjiaobaaGreatU64AllB
import Derived.Test.YtfhihapgjiaobaaGreatRefGcdAllB
import Derived.Deep.DeepCutAuto
import Derived.Test.YtfhihapgjiaobaaGreatRefProdAllB
import Derived.Test.YtfhihapgjiaobaaGreatQuotMathAllB
import Derived.Below
import Derived.Test.YtfhihapgjiaobaaGreatNatShlAllB
import Derived.Test.YtfhihapgjiaobaaGreatLnMemAllB
import Derived.Test.YtfhihapgjiaobaaGreatRefDivAllB
import Derived.Test.YtfhihapgjiaobaaGreatRatMulAllB
import Derived.Deep.RegionHeld3
import Derived.Test.YtfhihapgjiaobaaGreatEvBAllB
import Derived.Test.YtfhihapgjiaobaaGreatTgSzAllB
import Derived.Test.YtfhihapgjiaobaaGreatProg
import Derived.KernelRfl
import Derived.Test.YtfhihapgjiaobaaGreatTgNeAllB
namespace Go.Proofs.YtfhihapgjiaobaaGreat
set_option maxRecDepth 100000
open Go.RowKit Go.Shelf
set_option linter.unusedVariables false
set_option linter.unusedSimpArgs false
attribute [local go_sem] Oper.semAt_some

set_option maxRecDepth 100000 in
set_option maxHeartbeats 8000000 in
theorem tg_back {w : World} {A B C O D : Option Addr} {n c m d kf f mo o_ kc cc : Nat} {xs : List RI} {is fs cs : List RQ} {outs : List Int} (h : SlP w A n c xs) (hs : Shrt 64 xs) (hi : SlR w B m d is) (his : ∀ x ∈ is, x.n ≤ 64 ∧ x.n' ≤ 64) (hf : SlR w C kf f fs) (hfs : ∀ x ∈ fs, x.n ≤ 64 ∧ x.n' ≤ 64) (ho : SlZ w O mo o_ outs) (hc : SlR w D kc cc cs) (hcs : ∀ x ∈ cs, x.n ≤ 8 ∧ x.n' ≤ 8) (hn : n ≤ 60) (hm : m ≤ 1000) (hkf : kf ≤ 1000) (hmo : mo ≤ 60) (hkc : kc ≤ 1000) :
    Calls Tryz.prog 13 #[.slice A n c, .slice B m d, .slice C kf f, .slice O mo o_, .slice D kc cc] w (RetEx (bkAll (xs.map RI.pi) (allR is) (allR fs) (allR cs) (decide (mo = kc)) (qvs is) (qvs fs) outs (qvs cs)) w) := by
  have hlen : (xs.map RI.pi).length = n := by rw [List.length_map]; exact h.1.1
  obtain ⟨V0, hV0, R1, R2, R3, hb0, hs0⟩ := boxesR 23 3 28 w #[.slice none 0 0] #[.int .i64 0] #[.int .i64 0]
  have HV0 := Lib.hid hV0
  clear hV0
  have P1 := tg_allRight (hc.below hb0) (fun x hx => ⟨Nat.le_trans (hcs x hx).1 (by omega), Nat.le_trans (hcs x hx).2 (by omega)⟩ : ∀ x ∈ cs, x.n ≤ 64 ∧ x.n' ≤ 64) (by omega) (by omega)
  have P2 := fun (w1 : World) (hb : Below w.heap.size w w1) => ev_exact (h.below hb) hs (hi.below hb) his (hf.below hb) hfs (by omega) hm hkf
  have hsc := fun hh => slq_of hc hcs hh
  have hcl : (qvs cs).length = kc := by unfold qvs; rw [List.length_map]; exact hc.1.1
  have hex := fun v => @exAll_ok (xs.map RI.pi) (allR is) (allR fs) (qvs is) (qvs fs) v
  have hxe := fun i e => @exAll_errs (xs.map RI.pi) (allR is) (allR fs) (qvs is) (qvs fs) i e
  have ht1 := fun hh => @bkAll_no (xs.map RI.pi) (allR is) (allR fs) (allR cs) (decide (mo = kc)) (qvs is) (qvs fs) outs (qvs cs) hh
  have ht2 := fun e => @bkAll_err (xs.map RI.pi) (allR is) (allR fs) (qvs is) (qvs fs) outs (qvs cs) e
  have ht3 := fun v => @bkAll_ok (xs.map RI.pi) (allR is) (allR fs) (qvs is) (qvs fs) v outs (qvs cs)
  have HP1 := Lib.hid P1
  have HP2 := Lib.hid P2
  clear P1 P2
  generalize hIs : qvs is = Is at *
  generalize hFs : qvs fs = Fs at *
  by_cases hmk : mo = kc
  case neg =>
    rw [ht1 (by simp [hmk])]
    clear ht1 ht2 ht3 hex hxe hsc hcl
    have hmk2 : ¬ (mo : Int) = (kc : Int) := by omega
    refine (callsIn_wide (n := 3)).1 ?_
    refine callsIn_of_wp_marks Tryz.func13 rfl trivial ?_ rfl
    simp only [Tryz.ntmps13, List.size_toArray, List.length_cons, List.length_nil, Nat.reduceAdd, Nat.reduceSub, Array.replicate_succ, Array.replicate_zero, List.push_toArray, List.append_toArray, List.nil_append, List.cons_append]
    gi_wp2_with (refine ⟨trivial, ?_⟩)
    obtain ⟨V9, hV9, S1, S2, S3, b9, _⟩ := boxesR 23 3 28 w #[.slice none 0 0] #[.int .i64 0] #[.int .i64 1]
    rw [hV9]
    exact ⟨_, back_ret rfl rfl rfl S1 S2 S3, rfl, b9⟩
  case pos =>
  subst hmk
  rw [show decide (mo = mo) = true from by simp] at *
  generalize hp2 : allR cs = p2 at *
  cases p2
  case false =>
    rw [ht1 (by simp)]
    clear ht1 ht2 ht3 hex hxe hsc hcl
    refine (callsIn_wide (n := 3)).1 ?_
    refine callsIn_of_wp_marks Tryz.func13 rfl trivial ?_ rfl
    simp only [Tryz.ntmps13, List.size_toArray, List.length_cons, List.length_nil, Nat.reduceAdd, Nat.reduceSub, Array.replicate_succ, Array.replicate_zero, List.push_toArray, List.append_toArray, List.nil_append, List.cons_append]
    have HR := Lib.hid (And.intro R1 (And.intro R2 R3))
    gi_wp2_with (refine ⟨trivial, ?_⟩; gi_at_call 26; rw [HV0.out]; refine (callsIn_wide.2 HP1.out).mono ?_; rintro _ w1 ⟨rfl, b1⟩; obtain ⟨c1, f1⟩ := (HR.out.1.below' b1).one; obtain ⟨c2, f2⟩ := (HR.out.2.1.below' b1).one; obtain ⟨c3, f3⟩ := (HR.out.2.2.below' b1).one)
    obtain ⟨S1, S2, S3⟩ := putR_boxes (HR.out.1.below' b1) (HR.out.2.1.below' b1) (HR.out.2.2.below' b1) (by omega) (by omega) (by omega) (.slice none 0 0) (.int .i64 0) (.int .i64 1)
    exact ⟨_, back_ret rfl rfl rfl S1 S2 S3, rfl, below_putR (bb hb0 b1) (Nat.le_refl _) (by omega) (by omega) _ _ _⟩
  case true =>
  obtain ⟨r, hr⟩ : ∃ r, exAll (xs.map RI.pi) (allR is) (allR fs) Is Fs = r := ⟨_, rfl⟩
  rw [hr] at HP2
  cases r with
  | error er =>
    obtain ⟨i, er⟩ := er
    rw [ht2 _ hr]
    obtain ⟨_, hee⟩ := hxe i er hr
    have he0 : ¬ er = 0 := by omega
    clear ht1 ht2 ht3 hex hxe hsc hcl hr hee
    refine (callsIn_wide (n := 3)).1 ?_
    refine callsIn_of_wp_marks Tryz.func13 rfl trivial ?_ rfl
    simp only [Tryz.ntmps13, List.size_toArray, List.length_cons, List.length_nil, Nat.reduceAdd, Nat.reduceSub, Array.replicate_succ, Array.replicate_zero, List.push_toArray, List.append_toArray, List.nil_append, List.cons_append]
    have HR := Lib.hid (And.intro R1 (And.intro R2 R3))
    gi_wp2_with (refine ⟨trivial, ?_⟩; first | (gi_at_call 26; rw [HV0.out]; refine (callsIn_wide.2 HP1.out).mono ?_; rintro _ w1 ⟨rfl, b1⟩) | (gi_at_call 27; refine (callsIn_wide.2 (HP2.out _ (bb hb0 b1))).mono ?_; rintro _ w2 ⟨rfl, b2⟩; have y2 : Below V0.heap.size V0 w2 := bb b1 b2; obtain ⟨c1, f1⟩ := (HR.out.1.below' y2).one; obtain ⟨c2, f2⟩ := (HR.out.2.1.below' y2).one; obtain ⟨c3, f3⟩ := (HR.out.2.2.below' y2).one; have l1 := (HR.out.1.below' y2).lt; have l2 := (HR.out.2.1.below' y2).lt; have l3 := (HR.out.2.2.below' y2).lt))
    obtain ⟨S1, S2, S3⟩ := putR_boxes (HR.out.1.below' y2) (HR.out.2.1.below' y2) (HR.out.2.2.below' y2) (by omega) (by omega) (by omega) (.slice none 0 0) (.int .i64 (i : Int)) (.int .i64 er)
    have b9 := below_putR (bb hb0 y2) (Nat.le_refl _) (show w.heap.size ≤ w.heap.size + 1 by omega) (show w.heap.size ≤ w.heap.size + 1 + 1 by omega) (.slice none 0 0) (.int .i64 (i : Int)) (.int .i64 er)
    exact ⟨_, back_ret rfl rfl rfl (S1.alloc _) (S2.alloc _) (S3.alloc _), rfl, b9.alloc b9.size _⟩
  | ok v =>
    rw [ht3 v hr]
    subst hIs
    subst hFs
    exact back_main HV0.out R1 R2 R3 hb0 hs0 h hs hi his hf hfs ho hc hcs hn hm hkf hmo hp2 hr

end Go.Proofs.YtfhihapgjiaobaaGreat

namespace Go.Proofs.YtfhihapgjiaobaaGreat
set_option maxRecDepth 100000
set_option linter.unusedVariables false
set_option linter.unusedSimpArgs false

/-- p / d, rounded to the nearest natural, ties to the even one -/
def rdiv (p d : Nat) : Nat := if d < 2 * (p % d) ∨ (2 * (p % d) = d ∧ p / d % 2 = 1) then p / d + 1 else p / d
/-- how many bits the nearest double leaves out below -/
def ulp (p d : Nat) : Nat := blen (p / d) - 53
@[irreducible] def INF : Nat := 9218868437227405312
/-- 2^52 -/
@[irreducible] def B52 : Nat := 4503599627370496
/-- the word, without a sign, of the double nearest to p / d -/
def mag (p d : Nat) : Nat := min (ulp p d * B52 + rdiv p (d * 2 ^ ulp p d)) INF
/-- what a word without a sign says -/
def fv (b : Nat) : Nat := if b / B52 = 0 then b else (b % B52 + B52) * 2 ^ (b / B52 - 1)

theorem B52_pow : B52 = 2 ^ 52 := by unfold B52; rfl
theorem B52_eq : B52 = 4503599627370496 := by unfold B52; rfl
theorem INF_eq : INF = 2047 * B52 := by unfold INF B52; rfl
theorem B52_pos : 0 < B52 := by unfold B52; omega

/-- what rounding does: at most half a unit off; where it is just half a unit off, the result is even -/
theorem rdiv_spec (p : Nat) {d : Nat} (hd : 0 < d) : 2 * p ≤ (2 * rdiv p d + 1) * d ∧ 2 * rdiv p d * d ≤ 2 * p + d ∧ (2 * p = (2 * rdiv p d + 1) * d → rdiv p d % 2 = 0) ∧ (2 * rdiv p d * d = 2 * p + d → rdiv p d % 2 = 0) := by
  have h1 : p / d * d + p % d = p := Nat.div_add_mod' p d
  have h2 := Nat.mod_lt p hd
  unfold rdiv
  generalize p / d = q at *
  generalize p % d = r at *
  have e0 : (2 * q + 1) * d = 2 * (q * d) + d := by grind
  have e1 : 2 * q * d = 2 * (q * d) := by grind
  have e2 : (2 * (q + 1) + 1) * d = 2 * (q * d) + 3 * d := by grind
  have e3 : 2 * (q + 1) * d = 2 * (q * d) + 2 * d := by grind
  generalize q * d = x at *
  by_cases h : d < 2 * r ∨ (2 * r = d ∧ q % 2 = 1)
  · rw [if_pos h, e2, e3]
    omega
  · rw [if_neg h, e0, e1]
    omega
/-- how great the rounded number of units is -/
theorem units_le (p : Nat) {d : Nat} (hd : 0 < d) : rdiv p (d * 2 ^ ulp p d) ≤ 2 * B52 := by
  have hu : 0 < 2 ^ ulp p d := Nat.two_pow_pos _
  have h1 : p / (d * 2 ^ ulp p d) < 2 * B52 := by
    rw [← Nat.div_div_eq_div_mul, Nat.div_lt_iff_lt_mul hu]
    refine Nat.lt_of_lt_of_le (blen_lt (p / d)) ?_
    rw [B52_pow, ← Nat.pow_succ', ← Nat.pow_add]
    exact Nat.pow_le_pow_right (by omega) (by unfold ulp; omega)
  unfold rdiv
  split <;> omega
theorem units_ge (p : Nat) {d : Nat} (hd : 0 < d) (h0 : 0 < ulp p d) : B52 ≤ rdiv p (d * 2 ^ ulp p d) := by
  have hu : 0 < 2 ^ ulp p d := Nat.two_pow_pos _
  have h1 : B52 ≤ p / (d * 2 ^ ulp p d) := by
    rw [← Nat.div_div_eq_div_mul, Nat.le_div_iff_mul_le hu]
    have hp : 0 < p / d := by
      rcases Nat.eq_zero_or_pos (p / d) with h | h
      · unfold ulp at h0; rw [h, blen_zero] at h0; omega
      · exact h
    refine Nat.le_trans ?_ (blen_self hp)
    rw [B52_pow, ← Nat.pow_add]
    exact Nat.pow_le_pow_right (by omega) (by unfold ulp at *; omega)
  unfold rdiv
  split <;> omega
/-- is p / d a double, just so? -/
def Ex (p d : Nat) : Prop := p % d = 0 ∧ p / d % 2 ^ ulp p d = 0 ∧ blen (p / d) ≤ 2098
instance (p d : Nat) : Decidable (Ex p d) := by unfold Ex; infer_instance
/-- the word of what a word says -/
theorem fv_norm (b : Nat) : ∃ x s, fv b = x * 2 ^ s ∧ x < 2 * B52 ∧ (B52 ≤ x ∨ s = 0) ∧ s * B52 + x = b ∧ (b < INF → s ≤ 2045) := by
  have hm := Nat.mod_lt b B52_pos
  have hd := Nat.div_add_mod b B52
  unfold fv
  by_cases h : b / B52 = 0
  · rw [if_pos h]
    rw [h, Nat.mul_zero, Nat.zero_add] at hd
    exact ⟨b, 0, by simp, by omega, .inr rfl, by omega, fun _ => by omega⟩
  · rw [if_neg h]
    refine ⟨b % B52 + B52, b / B52 - 1, rfl, by omega, .inl (by omega), ?_, fun hb => ?_⟩
    · obtain ⟨k, hk⟩ : ∃ k, b / B52 = k + 1 := ⟨b / B52 - 1, (Nat.succ_pred_eq_of_ne_zero h).symm⟩
      rw [hk, Nat.mul_add, Nat.mul_one, Nat.mul_comm] at hd
      rw [hk, Nat.add_sub_cancel]
      omega
    · have : b / B52 < 2047 := by rw [Nat.div_lt_iff_lt_mul B52_pos]; rw [INF_eq] at hb; exact hb
      omega
/-- a number's units, as a normalized significand -/
theorem units_norm (p : Nat) {d : Nat} (hd : 0 < d) : ∃ x s, rdiv p (d * 2 ^ ulp p d) * 2 ^ ulp p d = x * 2 ^ s ∧ x < 2 * B52 ∧ (B52 ≤ x ∨ s = 0) ∧ s * B52 + x = ulp p d * B52 + rdiv p (d * 2 ^ ulp p d) := by
  have h1 := units_le p hd
  have h2 := units_ge p hd
  generalize hx : rdiv p (d * 2 ^ ulp p d) = x at *
  generalize ulp p d = s at *
  rcases Nat.lt_or_ge x (2 * B52) with hl | hl
  · exact ⟨x, s, rfl, hl, by rcases Nat.eq_zero_or_pos s with h | h; exact .inr h; exact .inl (h2 h), rfl⟩
  · obtain rfl : x = 2 * B52 := by omega
    refine ⟨B52, s + 1, by rw [Nat.pow_succ]; grind, by have := B52_pos; omega, .inl (Nat.le_refl _), by grind⟩
/-- .. what it says -/
theorem fv_mag (p : Nat) {d : Nat} (hd : 0 < d) (h : mag p d < INF) : fv (mag p d) = rdiv p (d * 2 ^ ulp p d) * 2 ^ ulp p d := by
  obtain ⟨x, s, e, h1, h2, h3⟩ := units_norm p hd
  have hm : mag p d = s * B52 + x := by
    unfold mag at h ⊢
    rw [h3]; omega
  obtain ⟨y, t, e', k1, k2, k3, _⟩ := fv_norm (mag p d)
  rw [e, e']
  have hst : s = t ∧ x = y := by
    rw [hm] at k3
    have hs : s = t := by
      rcases Nat.lt_trichotomy s t with hl | hl | hl
      · exfalso
        have : (s + 1) * B52 ≤ t * B52 := Nat.mul_le_mul_right _ hl
        rw [Nat.add_mul, Nat.one_mul] at this
        rcases k2 with k2 | k2 <;> omega
      · exact hl
      · exfalso
        have : (t + 1) * B52 ≤ s * B52 := Nat.mul_le_mul_right _ hl
        rw [Nat.add_mul, Nat.one_mul] at this
        rcases h2 with h2 | h2 <;> omega
    subst hs
    exact ⟨rfl, by omega⟩
  rw [hst.1, hst.2]
theorem mag_parity (p : Nat) {d : Nat} (hd : 0 < d) (h : mag p d < INF) : mag p d % 2 = rdiv p (d * 2 ^ ulp p d) % 2 := by
  have : mag p d = ulp p d * B52 + rdiv p (d * 2 ^ ulp p d) := by unfold mag at h ⊢; omega
  rw [this, B52_eq]
  omega

/-- how far apart -/
def dist (a b : Nat) : Nat := a - b + (b - a)
/-- no multiple of the unit is nearer -/
theorem rdiv_near (p k : Nat) {d : Nat} (hd : 0 < d) : dist p (rdiv p d * d) ≤ dist p (k * d) ∧ (dist p (rdiv p d * d) = dist p (k * d) → k = rdiv p d ∨ rdiv p d % 2 = 0) := by
  obtain ⟨a1, a2, a3, a4⟩ := rdiv_spec p hd
  generalize rdiv p d = x at *
  have e1 : (2 * x + 1) * d = 2 * (x * d) + d := by grind
  have e2 : 2 * x * d = 2 * (x * d) := by grind
  rw [e1] at a1 a3
  rw [e2] at a2 a4
  unfold dist
  rcases Nat.lt_trichotomy k x with hl | hl | hl
  · have : (k + 1) * d ≤ x * d := Nat.mul_le_mul_right _ hl
    rw [Nat.add_mul, Nat.one_mul] at this
    generalize x * d = X at *
    generalize k * d = Y at *
    refine ⟨by omega, fun h => .inr (a4 (by omega))⟩
  · subst hl
    exact ⟨Nat.le_refl _, fun _ => .inl rfl⟩
  · have : (x + 1) * d ≤ k * d := Nat.mul_le_mul_right _ hl
    rw [Nat.add_mul, Nat.one_mul] at this
    generalize x * d = X at *
    generalize k * d = Y at *
    refine ⟨by omega, fun h => .inr (a3 (by omega))⟩
/-- NO DOUBLE IS NEARER: of two that are as near it is the even one -/
theorem nearest (p b : Nat) {d : Nat} (hd : 0 < d) (h : mag p d < INF) (hb : b < INF) :
    dist p (fv (mag p d) * d) ≤ dist p (fv b * d) ∧ (dist p (fv (mag p d) * d) = dist p (fv b * d) → fv b = fv (mag p d) ∨ mag p d % 2 = 0) := by
  rw [mag_parity p hd h, fv_mag p hd h]
  have hu : 0 < 2 ^ ulp p d := Nat.two_pow_pos _
  have hU : 0 < d * 2 ^ ulp p d := Nat.mul_pos hd hu
  rw [show rdiv p (d * 2 ^ ulp p d) * 2 ^ ulp p d * d = rdiv p (d * 2 ^ ulp p d) * (d * 2 ^ ulp p d) by grind]
  obtain ⟨y, t, e, k1, k2, k3, _⟩ := fv_norm b
  rcases Nat.lt_or_ge t (ulp p d) with hl | hl
  · -- b lies below the binade of p
    have h0 : 0 < p / d := by
      rcases Nat.eq_zero_or_pos (p / d) with hz | hz
      · unfold ulp at hl; rw [hz, blen_zero] at hl; omega
      · exact hz
    have hlow : B52 * 2 ^ ulp p d * d ≤ p := by
      have h1 := blen_self h0
      have h2 : B52 * 2 ^ ulp p d = 2 ^ (blen (p / d) - 1) := by
        rw [B52_pow, ← Nat.pow_add]; congr 1; unfold ulp at *; omega
      rw [h2]
      exact Nat.le_trans (Nat.mul_le_mul_right _ h1) (Nat.div_mul_le_self p d)
    have hy : fv b < B52 * 2 ^ ulp p d := by
      rw [e]
      have h1 : y * 2 ^ t < 2 * B52 * 2 ^ t := Nat.mul_lt_mul_of_pos_right k1 (Nat.two_pow_pos t)
      have h2 : 2 * B52 * 2 ^ t = B52 * 2 ^ (t + 1) := by rw [Nat.pow_succ]; grind
      have h3 : B52 * 2 ^ (t + 1) ≤ B52 * 2 ^ ulp p d := Nat.mul_le_mul_left _ (Nat.pow_le_pow_right (by omega) hl)
      omega
    have hy2 : fv b * d < B52 * 2 ^ ulp p d * d := Nat.mul_lt_mul_of_pos_right hy hd
    obtain ⟨n1, _⟩ := rdiv_near p B52 hU
    rw [show B52 * (d * 2 ^ ulp p d) = B52 * 2 ^ ulp p d * d by grind] at n1
    have hlt : dist p (B52 * 2 ^ ulp p d * d) < dist p (fv b * d) := by
      generalize fv b * d = x at *
      generalize B52 * 2 ^ ulp p d * d = z at *
      unfold dist; omega
    exact ⟨by omega, fun h => by omega⟩
  · have hk : fv b = (y * 2 ^ (t - ulp p d)) * 2 ^ ulp p d := by
      rw [e, Nat.mul_assoc, ← Nat.pow_add]; congr 2; omega
    rw [hk, show y * 2 ^ (t - ulp p d) * 2 ^ ulp p d * d = y * 2 ^ (t - ulp p d) * (d * 2 ^ ulp p d) by grind]
    obtain ⟨n1, n2⟩ := rdiv_near p (y * 2 ^ (t - ulp p d)) hU
    refine ⟨n1, fun h => ?_⟩
    rcases n2 h with h | h
    · left; rw [h]
    · exact .inr h
end Go.Proofs.YtfhihapgjiaobaaGreat

namespace Go.Proofs.YtfhihapgjiaobaaGreat
set_option maxRecDepth 100000
set_option linter.unusedVariables false
set_option linter.unusedSimpArgs false

def up (e : Int) : Nat := (e + 1074).toNat
def dn (e : Int) : Nat := (-(e + 1074)).toNat
/-- is p / q * 2^e a double, just so? -/
def ExR (p q : Nat) (e : Int) : Prop := Ex (p * 2 ^ up e) (q * 2 ^ dn e)
instance (p q : Nat) (e : Int) : Decidable (ExR p q e) := by unfold ExR; infer_instance
/-- a double's word with its sign -/
def sg (s : Bool) (b : Nat) : Nat := if s then b + 9223372036854775808 else b
end Go.Proofs.YtfhihapgjiaobaaGreat

namespace Go.Proofs.YtfhihapgjiaobaaGreat
set_option maxRecDepth 100000
open Go.RowKit
set_option linter.unusedVariables false
set_option linter.unusedSimpArgs false

/-- the exponent's field, the fraction, the sign, the kind of a double -/
def fld (b : Nat) : Nat := b / 4503599627370496 % 2048
def rst (b : Nat) : Nat := b % 4503599627370496
def ng (b : Nat) : Bool := decide (9223372036854775808 ≤ b)
def kd (b : Nat) : Nat := if fld b = 2047 then (if rst b = 0 then 3 else 4) else if fld b = 0 then (if rst b = 0 then 0 else 1) else 2
end Go.Proofs.YtfhihapgjiaobaaGreat

namespace Go.Proofs.YtfhihapgjiaobaaGreat
set_option maxRecDepth 100000
set_option linter.unusedVariables false
set_option linter.unusedSimpArgs false

@[irreducible] def K74 : Nat := 1074
def mant (b : Nat) : Nat := b % 9223372036854775808
end Go.Proofs.YtfhihapgjiaobaaGreat

namespace Go.Proofs.YtfhihapgjiaobaaGreat
set_option maxRecDepth 100000
set_option linter.unusedVariables false
set_option linter.unusedSimpArgs false

end Go.Proofs.YtfhihapgjiaobaaGreat

namespace Go.Proofs.YtfhihapgjiaobaaGreat
set_option maxRecDepth 100000
open Go.RowKit
set_option linter.unusedVariables false
set_option linter.unusedSimpArgs false

/-! ### sums -/
/-- what a double's digits say, in units of the least double -/
def vl (b : Nat) : Nat := fv (mant b)
end Go.Proofs.YtfhihapgjiaobaaGreat

namespace Go.Proofs.YtfhihapgjiaobaaGreat
set_option maxRecDepth 100000
open Go.RowKit
set_option linter.unusedVariables false
set_option linter.unusedSimpArgs false

end Go.Proofs.YtfhihapgjiaobaaGreat

namespace Go.Proofs.YtfhihapgjiaobaaGreat
set_option maxRecDepth 100000
open Go.RowKit
set_option linter.unusedVariables false
set_option linter.unusedSimpArgs false

end Go.Proofs.YtfhihapgjiaobaaGreat

namespace Go.Proofs.YtfhihapgjiaobaaGreat
set_option maxRecDepth 100000
open Go.RowKit
set_option linter.unusedVariables false
set_option linter.unusedSimpArgs false

end Go.Proofs.YtfhihapgjiaobaaGreat

namespace Go.Proofs.YtfhihapgjiaobaaGreat
set_option maxRecDepth 100000
open Go.RowKit
set_option linter.unusedVariables false
set_option linter.unusedSimpArgs false

end Go.Proofs.YtfhihapgjiaobaaGreat

namespace Go.Proofs.YtfhihapgjiaobaaGreat
set_option maxRecDepth 100000
open Go.RowKit
set_option linter.unusedVariables false
set_option linter.unusedSimpArgs false

end Go.Proofs.YtfhihapgjiaobaaGreat

namespace Go.Proofs.YtfhihapgjiaobaaGreat
set_option maxRecDepth 100000
open Go.RowKit
set_option linter.unusedVariables false
set_option linter.unusedSimpArgs false

/-! ### products -/
/-! ### quotients -/
/-! ### roots -/
/-! ### the whole -/
end Go.Proofs.YtfhihapgjiaobaaGreat

namespace Go.Proofs.YtfhihapgjiaobaaGreat
set_option maxRecDepth 100000
open Go.RowKit
set_option linter.unusedVariables false
set_option linter.unusedSimpArgs false

end Go.Proofs.YtfhihapgjiaobaaGreat

namespace Go.Proofs.YtfhihapgjiaobaaGreat
set_option maxRecDepth 100000
open Go.RowKit
set_option linter.unusedVariables false
set_option linter.unusedSimpArgs false

end Go.Proofs.YtfhihapgjiaobaaGreat

namespace Go.Proofs.YtfhihapgjiaobaaGreat
set_option maxRecDepth 100000
open Go.RowKit
set_option linter.unusedVariables false
set_option linter.unusedSimpArgs false

end Go.Proofs.YtfhihapgjiaobaaGreat

namespace Go.Proofs.YtfhihapgjiaobaaGreat
set_option maxRecDepth 100000
open Go.RowKit
set_option linter.unusedVariables false
set_option linter.unusedSimpArgs false

end Go.Proofs.YtfhihapgjiaobaaGreat

namespace Go.Proofs.YtfhihapgjiaobaaGreat
set_option maxRecDepth 100000
open Go.RowKit
set_option linter.unusedVariables false
set_option linter.unusedSimpArgs false

end Go.Proofs.YtfhihapgjiaobaaGreat

namespace Go.Proofs.YtfhihapgjiaobaaGreat
set_option maxRecDepth 100000
open Go.RowKit
set_option linter.unusedVariables false
set_option linter.unusedSimpArgs false

end Go.Proofs.YtfhihapgjiaobaaGreat

namespace Go.Proofs.YtfhihapgjiaobaaGreat
set_option maxRecDepth 100000
open Go.RowKit
set_option linter.unusedVariables false
set_option linter.unusedSimpArgs false

end Go.Proofs.YtfhihapgjiaobaaGreat

namespace Go.Proofs.YtfhihapgjiaobaaGreat
set_option maxRecDepth 100000
open Go.RowKit
set_option linter.unusedVariables false
set_option linter.unusedSimpArgs false

end Go.Proofs.YtfhihapgjiaobaaGreat

namespace Go.Proofs.YtfhihapgjiaobaaGreat
set_option maxRecDepth 100000
open Go.RowKit
set_option linter.unusedVariables false
set_option linter.unusedSimpArgs false

end Go.Proofs.YtfhihapgjiaobaaGreat

namespace Go.Proofs.YtfhihapgjiaobaaGreat
set_option maxRecDepth 100000
open Go.RowKit
set_option linter.unusedVariables false
set_option linter.unusedSimpArgs false

end Go.Proofs.YtfhihapgjiaobaaGreat

namespace Go.Proofs.YtfhihapgjiaobaaGreat
set_option maxRecDepth 100000
open Go.RowKit
set_option linter.unusedVariables false
set_option linter.unusedSimpArgs false

end Go.Proofs.YtfhihapgjiaobaaGreat

namespace Go.Proofs.YtfhihapgjiaobaaGreat
set_option maxRecDepth 100000
open Go.RowKit
set_option linter.unusedVariables false
set_option linter.unusedSimpArgs false

/-! ### plain -/
/-! ### the root of a rounded square -/
/-! ### the walks -/
end Go.Proofs.YtfhihapgjiaobaaGreat

namespace Go.Proofs.YtfhihapgjiaobaaGreat
set_option maxRecDepth 100000
open Go.RowKit
set_option linter.unusedVariables false
set_option linter.unusedSimpArgs false

end Go.Proofs.YtfhihapgjiaobaaGreat

namespace Go.Proofs.YtfhihapgjiaobaaGreat
set_option maxRecDepth 100000
open Go.RowKit
set_option linter.unusedVariables false
set_option linter.unusedSimpArgs false

end Go.Proofs.YtfhihapgjiaobaaGreat

namespace Go.Proofs.YtfhihapgjiaobaaGreat
set_option maxRecDepth 100000
open Go.RowKit
set_option linter.unusedVariables false
set_option linter.unusedSimpArgs false

/-- the number 1 in units of the least double -/
@[irreducible] def OO : Nat := 2 ^ K74
/-! ### what layers 10 and 13 do, plainly -/
/-! ### infinities stand beyond all others -/
/-! ### the nearest integer -/
/-! ### times powers of 2 -/
end Go.Proofs.YtfhihapgjiaobaaGreat

namespace Go.Proofs.YtfhihapgjiaobaaGreat
set_option maxRecDepth 100000
open Go.RowKit
set_option linter.unusedVariables false
set_option linter.unusedSimpArgs false

/-- what a double says, with its sign -/
def iv (b : Nat) : Int := sI (ng b) (vl b)
/-! ### bounds -/
/-! ### the exponential's sum: each step leaves it without a sign, at most twice the term that it adds -/
@[irreducible] def HALF : Nat := 4602678819172646912
end Go.Proofs.YtfhihapgjiaobaaGreat

namespace Go.Proofs.YtfhihapgjiaobaaGreat
set_option maxRecDepth 100000
open Go.RowKit
set_option linter.unusedVariables false
set_option linter.unusedSimpArgs false

@[irreducible] def PP : Nat := 4609176140021203710
@[irreducible] def LL : Nat := 4604418534311723008
@[irreducible] def ll : Nat := 4461442080421002358
/-! ### the rest after the multiple of the logarithm of 2 is taken away is at most a half -/
@[irreducible] def HH : Nat := 2 ^ (K74 - 53)
@[irreducible] def W746 : Nat := 4649773101213548544
@[irreducible] def W1077 : Nat := 4652451511538810880
@[irreducible] def W716 : Nat := 4601552919265804288
@[irreducible] def WTINY : Nat := 4517110426252607488
/-! ### the whole -/
end Go.Proofs.YtfhihapgjiaobaaGreat

namespace Go.Proofs.YtfhihapgjiaobaaGreat
set_option maxRecDepth 100000
open Go.RowKit
set_option linter.unusedVariables false
set_option linter.unusedSimpArgs false

@[irreducible] def ONE : Nat := 4607182418800017408
@[irreducible] def TWO : Nat := 4611686018427387904
@[irreducible] def RR : Nat := 4609047870845172685
@[irreducible] def W1116 : Nat := 4604367669032910848
@[irreducible] def W32 : Nat := 4609434218613702656
@[irreducible] def W516 : Nat := 4599301119452119040
@[irreducible] def W14 : Nat := 4598175219545276416
@[irreducible] def W116 : Nat := 4589168020290535424
@[irreducible] def W132 : Nat := 4584664420663164928
@[irreducible] def W164 : Nat := 4580160821035794432
@[irreducible] def W38 : Nat := 4600427019358961664
@[irreducible] def W3364 : Nat := 4602819556661002240
@[irreducible] def W3464 : Nat := 4602960294149357568
@[irreducible] def W4464 : Nat := 4604367669032910848
@[irreducible] def W53 : Nat := 4368491638549381120
@[irreducible] def W55 : Nat := 4359484439294640128
@[irreducible] def W4 : Nat := 4616189618054758400
/-! ### the sum over powers of z -/
/-! ### the logarithm near 1 -/
/-! ### the whole -/
end Go.Proofs.YtfhihapgjiaobaaGreat

namespace Go.Proofs.YtfhihapgjiaobaaGreat
set_option maxRecDepth 100000
open Go.RowKit
set_option linter.unusedVariables false
set_option linter.unusedSimpArgs false

/-! ### tables and sums -/
/-! ### constants -/
/-! ### times powers of 2 -/
end Go.Proofs.YtfhihapgjiaobaaGreat

namespace Go.Proofs.YtfhihapgjiaobaaGreat
set_option maxRecDepth 100000
open Go.RowKit
set_option linter.unusedVariables false
set_option linter.unusedSimpArgs false

end Go.Proofs.YtfhihapgjiaobaaGreat

namespace Go.Proofs.YtfhihapgjiaobaaGreat
set_option maxRecDepth 100000
open Go.RowKit
set_option linter.unusedVariables false
set_option linter.unusedSimpArgs false

end Go.Proofs.YtfhihapgjiaobaaGreat

namespace Go.Proofs.YtfhihapgjiaobaaGreat
set_option maxRecDepth 100000
open Go.RowKit
set_option linter.unusedVariables false
set_option linter.unusedSimpArgs false

end Go.Proofs.YtfhihapgjiaobaaGreat

namespace Go.Proofs.YtfhihapgjiaobaaGreat
set_option maxRecDepth 100000
open Go.RowKit
set_option linter.unusedVariables false
set_option linter.unusedSimpArgs false

end Go.Proofs.YtfhihapgjiaobaaGreat

namespace Go.Proofs.YtfhihapgjiaobaaGreat
set_option maxRecDepth 100000
open Go.RowKit
set_option linter.unusedVariables false
set_option linter.unusedSimpArgs false

end Go.Proofs.YtfhihapgjiaobaaGreat

namespace Go.Proofs.YtfhihapgjiaobaaGreat
set_option maxRecDepth 100000
open Go.RowKit
set_option linter.unusedVariables false
set_option linter.unusedSimpArgs false

end Go.Proofs.YtfhihapgjiaobaaGreat

namespace Go.Proofs.YtfhihapgjiaobaaGreat
set_option maxRecDepth 100000
open Go.RowKit
set_option linter.unusedVariables false
set_option linter.unusedSimpArgs false

end Go.Proofs.YtfhihapgjiaobaaGreat

namespace Go.Proofs.YtfhihapgjiaobaaGreat
set_option maxRecDepth 100000
open Go.RowKit
set_option linter.unusedVariables false
set_option linter.unusedSimpArgs false

end Go.Proofs.YtfhihapgjiaobaaGreat

namespace Go.Proofs.YtfhihapgjiaobaaGreat
set_option maxRecDepth 100000
open Go.RowKit
set_option linter.unusedVariables false
set_option linter.unusedSimpArgs false

end Go.Proofs.YtfhihapgjiaobaaGreat

namespace Go.Proofs.YtfhihapgjiaobaaGreat
set_option maxRecDepth 100000
open Go.RowKit
set_option linter.unusedVariables false
set_option linter.unusedSimpArgs false

end Go.Proofs.YtfhihapgjiaobaaGreat

namespace Go.Proofs.YtfhihapgjiaobaaGreat
set_option maxRecDepth 100000
open Go.RowKit
set_option linter.unusedVariables false
set_option linter.unusedSimpArgs false

/-- naturals as words -/
def nts (v : List Nat) : List Int := v.map fun (n : Nat) => (n : Int)
/-- all are words -/
def AllW (v : List Nat) : Prop := ∀ x ∈ v, x < 18446744073709551616
theorem AllW.at_ {v : List Nat} (h : AllW v) (j : Nat) : v.getD j 0 < 18446744073709551616 := by
  rw [List.getD_eq_getElem?_getD]
  cases e : v[j]? with
  | none => show 0 < _; omega
  | some x => exact h x (List.mem_of_getElem? e)
theorem AllW.snoc {v : List Nat} {x : Nat} (h : AllW v) (hx : x < 18446744073709551616) : AllW (v ++ [x]) := by
  intro y hy
  rcases List.mem_append.1 hy with hy | hy
  · exact h y hy
  · rw [List.mem_singleton.1 hy]; exact hx
theorem AllW.us {v : List Nat} (h : AllW v) : ∀ x ∈ nts v, U x := by
  intro x hx
  unfold nts at hx
  obtain ⟨y, hy, rfl⟩ := List.mem_map.1 hx
  have := h y hy
  exact ⟨by omega, by omega⟩
end Go.Proofs.YtfhihapgjiaobaaGreat

namespace Go.Proofs.YtfhihapgjiaobaaGreat
set_option maxRecDepth 100000
open Go.RowKit
set_option linter.unusedVariables false
set_option linter.unusedSimpArgs false

end Go.Proofs.YtfhihapgjiaobaaGreat

namespace Go.Proofs.YtfhihapgjiaobaaGreat
set_option maxRecDepth 100000
open Go.RowKit Go.WideShapes Go.ChangeShapes
set_option linter.unusedVariables false

theorem rat_ty : RatTy Tryz.prog 45 :=
  ⟨⟨_, _, _, Tryz.underlying45, rfl, rfl, rfl, by kernel_rfl, by kernel_rfl, by kernel_rfl, Tryz.underlying4, _, _, Tryz.underlying43, Tryz.underlying43, Tryz.underlying76, Tryz.underlying76, by kernel_rfl, by kernel_rfl⟩, by kernel_rfl⟩
theorem ins_ty : InsTy Tryz.prog 52 :=
  ⟨⟨_, _, _, _, Tryz.underlying52, rfl, rfl, rfl, rfl, by kernel_rfl, by kernel_rfl, by kernel_rfl, Tryz.underlying3, Tryz.underlying3, Tryz.underlying3, rat_ty⟩, by kernel_rfl⟩
section
variable {H : Type} {enc : TypeId × Value → H} {w : World} {base b0 : Nat} {held : Bool} {r : Reach} {v : Value} {d : DataW H} {p : List MemPlace}
theorem arg_rats (hv : Value.okWide Tryz.prog w r b0 23 v) (h : DataW.Trod enc Tryz.prog w base (fun _ => true) held 23 v d p) : ∃ A n c xs, v = .slice A n c ∧ SlR w A n c xs := by
  obtain ⟨A, n, c, rfl⟩ := okWide_slice Tryz.underlying23 hv
  obtain ⟨fuel, hf⟩ := h
  exact open_slr Tryz.underlying23 rat_ty (by simpa [Value.cells] using hf)
theorem arg_inss (hv : Value.okWide Tryz.prog w r b0 22 v) (h : DataW.Trod enc Tryz.prog w base (fun _ => true) held 22 v d p) : ∃ A n c xs, v = .slice A n c ∧ SlP w A n c xs := by
  obtain ⟨A, n, c, rfl⟩ := okWide_slice Tryz.underlying22 hv
  obtain ⟨fuel, hf⟩ := h
  exact open_slp Tryz.underlying22 ins_ty (by simpa [Value.cells] using hf)
theorem arg_ints (hv : Value.okWide Tryz.prog w r b0 34 v) (h : DataW.Trod enc Tryz.prog w base (fun _ => true) held 34 v d p) : ∃ A n c xs, v = .slice A n c ∧ SlZ w A n c xs := by
  obtain ⟨A, n, c, rfl⟩ := okWide_slice Tryz.underlying34 hv
  obtain ⟨fuel, hf⟩ := h
  exact open_slz Tryz.underlying34 Tryz.underlying3 (by kernel_rfl) (by simpa [Value.cells] using hf)
theorem arg_words (hv : Value.okWide Tryz.prog w r b0 43 v) (h : DataW.Trod enc Tryz.prog w base (fun _ => true) held 43 v d p) : ∃ A n c z, v = .slice A n c ∧ Sl w A n c z ∧ n ≤ maxLen := by
  obtain ⟨A, n, c, rfl⟩ := okWide_slice Tryz.underlying43 hv
  obtain ⟨fuel, hf⟩ := h
  exact open_sl Tryz.underlying43 Tryz.underlying76 (by kernel_rfl) (by simpa [Value.cells] using hf)
theorem arg_rat (hv : Value.okWide Tryz.prog w r b0 45 v) (h : DataW.Trod enc Tryz.prog w base (fun _ => true) held 45 v d p) : ∃ q : RQ, v = .agg #[.bool q.s, .slice q.A q.n q.c, .slice q.A' q.n' q.c'] ∧ q.ok w := by
  obtain ⟨cs, rfl, hsz⟩ := okWide_struct Tryz.underlying45 hv
  obtain ⟨fuel, hf⟩ := h
  obtain ⟨q, e, ok⟩ := open_rq rat_ty (by simpa [Value.cells] using hf)
  obtain ⟨l⟩ := cs
  refine ⟨q, ?_, ok⟩
  have e2 : l = q.cells := by simpa using e
  rw [e2]
  rfl
theorem arg_ins (hv : Value.okWide Tryz.prog w r b0 52 v) (h : DataW.Trod enc Tryz.prog w base (fun _ => true) held 52 v d p) : ∃ q : RI, v = .agg #[.int .i64 q.op, .int .i64 q.a, .int .i64 q.b, .bool q.q.s, .slice q.q.A q.q.n q.q.c, .slice q.q.A' q.q.n' q.q.c'] ∧ q.ok w := by
  obtain ⟨cs, rfl, hsz⟩ := okWide_struct Tryz.underlying52 hv
  obtain ⟨fuel, hf⟩ := h
  obtain ⟨q, e, ok⟩ := open_ri ins_ty (by simpa [Value.cells] using hf)
  obtain ⟨l⟩ := cs
  refine ⟨q, ?_, ok⟩
  have e2 : l = q.cells := by simpa using e
  rw [e2]
  rfl
end

end Go.Proofs.YtfhihapgjiaobaaGreat

namespace Go.Proofs.YtfhihapgjiaobaaGreat
set_option maxRecDepth 100000
open Go.RowKit
set_option linter.unusedVariables false
set_option linter.unusedSimpArgs false

def longB (k : Int) (q : RQ) : Bool := decide (k < q.n ∨ k < q.n')
def anyI (xs : List RI) : Bool := xs.any fun x => longB 8 x.q
def anyR (k : Int) (xs : List RQ) : Bool := xs.any fun x => longB k x
def manyB (xs : List RI) : Bool := anyI xs || decide (300 < xs.length)
theorem anyI_yes {xs : List RI} {x : RI} (hx : x ∈ xs) (h : longB 8 x.q = true) : anyI xs = true := List.any_eq_true.2 ⟨x, hx, h⟩
theorem anyI_no {xs : List RI} (h : ∀ (i : Nat) (x : RI), xs[i]? = some x → longB 8 x.q = false) : anyI xs = false := by
  unfold anyI
  rw [Bool.eq_false_iff]
  intro hh
  obtain ⟨x, hx, h1⟩ := List.any_eq_true.1 hh
  obtain ⟨j, hj⟩ := List.mem_iff_getElem?.1 hx
  rw [h j x hj] at h1
  cases h1
theorem anyR_yes {k : Int} {xs : List RQ} {x : RQ} (hx : x ∈ xs) (h : longB k x = true) : anyR k xs = true := List.any_eq_true.2 ⟨x, hx, h⟩
theorem anyR_no {k : Int} {xs : List RQ} (h : ∀ (i : Nat) (x : RQ), xs[i]? = some x → longB k x = false) : anyR k xs = false := by
  unfold anyR
  rw [Bool.eq_false_iff]
  intro hh
  obtain ⟨x, hx, h1⟩ := List.any_eq_true.1 hh
  obtain ⟨j, hj⟩ := List.mem_iff_getElem?.1 hx
  rw [h j x hj] at h1
  cases h1
theorem anyI_short {xs : List RI} (h : anyI xs = false) : Shrt 8 xs := by
  intro x hx
  have h1 : ¬ longB 8 x.q = true := fun hh => by rw [anyI_yes hx hh] at h; cases h
  unfold longB at h1
  rw [decide_eq_true_eq] at h1
  omega
theorem anyR_short {k : Nat} {xs : List RQ} (h : anyR k xs = false) : ∀ x ∈ xs, x.n ≤ k ∧ x.n' ≤ k := by
  intro x hx
  have h1 : ¬ longB k x = true := fun hh => by rw [anyR_yes hx hh] at h; cases h
  unfold longB at h1
  rw [decide_eq_true_eq] at h1
  omega

set_option maxHeartbeats 2000000 in
theorem law_many {w : World} {A : Option Addr} {n c : Nat} {xs : List RI} (h : SlP w A n c xs) :
    Calls Tryz.prog 56 #[.slice A n c] w (RetBl (manyB xs) w) := by
  have hlen : xs.length = n := h.1.1
  have hmx : n ≤ 9223372036854775807 := by have h1 := h.1.2.1; have h2 := h.1.2.2.1; unfold maxLen at h2; omega
  have HL := Lib.hid hlen
  clear hlen
  go_enter Tryz.func56, Tryz.ntmps56
  go_wp2_with fail
  go_loopw [6] (fun iv wr => ∃ j : Nat, j ≤ n ∧ iv = .int .i64 j ∧ Below w.heap.size w wr ∧ Hid (∀ (i : Nat) x, i < j → xs[i]? = some x → longB 8 x.q = false)) (fun iv _ => n - mes iv)
  case atStart => exact ⟨0, by omega, rfl, Below.refl _ _, Lib.hid (fun i x hi => absurd hi (by omega))⟩
  case round =>
    obtain ⟨j, hj, rfl, hb, HF⟩ := hrel
    by_cases hj2 : j < n
    · obtain ⟨b0, off, x, rfl, hlt, hxk, hok, c0, c1, c2, c3, c4, c5⟩ := (h.below hb).at_ hj2
      have LG := plain_long (w := wr) (s := x.q.s) (A := x.q.A) (A' := x.q.A') (n := x.q.n) (n' := x.q.n') (c := x.q.c) (c' := x.q.c') 8
      obtain ⟨r, hr⟩ : ∃ r, longB 8 x.q = r := ⟨_, rfl⟩
      have LG2 : Calls Tryz.prog 31 #[.agg #[.bool x.q.s, .slice x.q.A x.q.n x.q.c, .slice x.q.A' x.q.n' x.q.c'], .int .i64 8] wr (RetBl (longB 8 x.q) wr) := LG
      rw [hr] at LG2
      have HK := Lib.hid LG2
      have HR := Lib.hid hr
      clear LG LG2 hok hr
      cases r
      case true =>
        have hyes := anyI_yes (mem_at hxk) HR.out
        clear HF hxk
        go_wp2_with fail
        with_reducible refine HK.out.mono ?_
        rintro _ w2 ⟨rfl, b2⟩
        go_wp2_with fail
        go_ret
        exact ⟨by unfold manyB; rw [hyes]; rfl, bb hb b2⟩
      case false =>
        go_wp2_with fail
        with_reducible refine HK.out.mono ?_
        rintro _ w2 ⟨rfl, b2⟩
        go_wp2_with fail
        go_roundw
        case rel => exact ⟨j + 1, by omega, by go_num, bb hb b2, Lib.hid (fun i y hi hy => by
          rcases Nat.lt_or_eq_of_le (Nat.le_of_lt_succ hi) with h9 | h9
          · exact HF.out i y h9 hy
          · rw [h9, hxk] at hy; cases hy; exact HR.out)⟩
        case measure => simp [mes, intOf]; omega
    · obtain rfl : j = n := by omega
      have hno := anyI_no (xs := xs) (fun i x hx => HF.out i x (by
        have := HL.out
        rcases Nat.lt_or_ge i xs.length with h9 | h9
        · omega
        · rw [List.getElem?_eq_none h9] at hx; cases hx) hx)
      have hm : manyB xs = decide (300 < j) := by unfold manyB; rw [hno, Bool.false_or, HL.out]
      rcases Nat.lt_or_ge 300 j with h9 | h9
      · rw [decide_eq_true h9] at hm
        go_wp2_with fail
        go_ret
        exact ⟨by rw [hm]; simp; omega, hb⟩
      · rw [decide_eq_false (by omega)] at hm
        go_wp2_with fail
        go_ret
        exact ⟨by rw [hm]; simp; omega, hb⟩

set_option maxHeartbeats 2000000 in
theorem plain_longer {w : World} {A : Option Addr} {n c : Nat} {xs : List RQ} (h : SlR w A n c xs) (k : Int) :
    Calls Tryz.prog 12 #[.slice A n c, .int .i64 k] w (RetBl (anyR k xs) w) := by
  have hlen : xs.length = n := h.1.1
  have hmx : n ≤ 9223372036854775807 := by have h1 := h.1.2.1; have h2 := h.1.2.2.1; unfold maxLen at h2; omega
  have HL := Lib.hid hlen
  clear hlen
  go_enter Tryz.func12, Tryz.ntmps12
  go_wp2_with fail
  go_loopw [8] (fun iv wr => ∃ j : Nat, j ≤ n ∧ iv = .int .i64 j ∧ Below w.heap.size w wr ∧ Hid (∀ (i : Nat) x, i < j → xs[i]? = some x → longB k x = false)) (fun iv _ => n - mes iv)
  case atStart => exact ⟨0, by omega, rfl, Below.refl _ _, Lib.hid (fun i x hi => absurd hi (by omega))⟩
  case round =>
    obtain ⟨j, hj, rfl, hb, HF⟩ := hrel
    by_cases hj2 : j < n
    · obtain ⟨b0, off, x, rfl, hlt, hxk, hok, c0, c1, c2⟩ := (h.below hb).at_ hj2
      have LG := plain_long (w := wr) (s := x.s) (A := x.A) (A' := x.A') (n := x.n) (n' := x.n') (c := x.c) (c' := x.c') k
      obtain ⟨r, hr⟩ : ∃ r, longB k x = r := ⟨_, rfl⟩
      have LG2 : Calls Tryz.prog 31 #[.agg #[.bool x.s, .slice x.A x.n x.c, .slice x.A' x.n' x.c'], .int .i64 k] wr (RetBl (longB k x) wr) := LG
      rw [hr] at LG2
      have HK := Lib.hid LG2
      have HR := Lib.hid hr
      clear LG LG2 hok hr
      cases r
      case true =>
        have hyes := anyR_yes (mem_at hxk) HR.out
        clear HF hxk
        go_wp2_with fail
        with_reducible refine HK.out.mono ?_
        rintro _ w2 ⟨rfl, b2⟩
        go_wp2_with fail
        go_ret
        exact ⟨by rw [hyes]; rfl, bb hb b2⟩
      case false =>
        go_wp2_with fail
        with_reducible refine HK.out.mono ?_
        rintro _ w2 ⟨rfl, b2⟩
        go_wp2_with fail
        go_roundw
        case rel => exact ⟨j + 1, by omega, by go_num, bb hb b2, Lib.hid (fun i y hi hy => by
          rcases Nat.lt_or_eq_of_le (Nat.le_of_lt_succ hi) with h9 | h9
          · exact HF.out i y h9 hy
          · rw [h9, hxk] at hy; cases hy; exact HR.out)⟩
        case measure => simp [mes, intOf]; omega
    · obtain rfl : j = n := by omega
      have hno := anyR_no (xs := xs) (fun i x hx => HF.out i x (by
        have := HL.out
        rcases Nat.lt_or_ge i xs.length with h9 | h9
        · omega
        · rw [List.getElem?_eq_none h9] at hx; cases hx) hx)
      go_wp2_with fail
      go_ret
      exact ⟨by rw [hno]; rfl, hb⟩

def FewP (n m k : Nat) (xs : List RI) (is fs : List RQ) : Prop := manyB xs = false ∧ n ≤ 60 ∧ m ≤ 30 ∧ k ≤ 60 ∧ anyR 3 is = false ∧ anyR 3 fs = false
set_option maxRecDepth 100000 in
set_option maxHeartbeats 4000000 in
theorem law_few {w : World} {A B C : Option Addr} {n c m d k f : Nat} {xs : List RI} {is fs : List RQ} (h : SlP w A n c xs) (hi : SlR w B m d is) (hf : SlR w C k f fs) :
    ∃ b : Bool, (b = true ↔ FewP n m k xs is fs) ∧ Calls Tryz.prog 23 #[.slice A n c, .slice B m d, .slice C k f] w (RetBl b w) := by
  have M := Lib.hid (law_many h)
  have L1 := fun (w1 : World) (hb : Below w.heap.size w w1) => plain_longer (hi.below hb) 3
  have L2 := fun (w1 : World) (hb : Below w.heap.size w w1) => plain_longer (hf.below hb) 3
  have H1 := Lib.hid L1
  have H2 := Lib.hid L2
  clear L1 L2 h hi hf
  unfold FewP
  generalize manyB xs = p at *
  generalize anyR 3 is = q at *
  generalize anyR 3 fs = r at *
  cases p
  case true =>
    refine ⟨false, by simp, ?_⟩
    go_enter Tryz.func23, Tryz.ntmps23
    go_wp2_with fail
    with_reducible refine M.out.mono ?_
    rintro _ w1 ⟨rfl, b1⟩
    go_wp2_with fail
    go_ret
    exact ⟨rfl, b1⟩
  case false =>
  by_cases h1 : n ≤ 60
  case neg =>
    have e1 : decide ((n : Int) ≤ 60) = false := decide_eq_false (by omega)
    have e2 : decide (n ≤ 60) = false := decide_eq_false (by omega)
    refine ⟨false, by simp [h1], ?_⟩
    go_enter Tryz.func23, Tryz.ntmps23
    go_wp2_with fail
    with_reducible refine M.out.mono ?_
    rintro _ w1 ⟨rfl, b1⟩
    go_wp2_with fail
    go_ret
    exact ⟨rfl, b1⟩
  case pos =>
  by_cases h2 : m ≤ 30
  case neg =>
    have e1 : decide ((m : Int) ≤ 30) = false := decide_eq_false (by omega)
    have e2 : decide (m ≤ 30) = false := decide_eq_false (by omega)
    refine ⟨false, by simp [h2], ?_⟩
    go_enter Tryz.func23, Tryz.ntmps23
    go_wp2_with fail
    with_reducible refine M.out.mono ?_
    rintro _ w1 ⟨rfl, b1⟩
    go_wp2_with fail
    go_ret
    exact ⟨rfl, b1⟩
  case pos =>
  by_cases h3 : k ≤ 60
  case neg =>
    have e1 : decide ((k : Int) ≤ 60) = false := decide_eq_false (by omega)
    have e2 : decide (k ≤ 60) = false := decide_eq_false (by omega)
    refine ⟨false, by simp [h3], ?_⟩
    go_enter Tryz.func23, Tryz.ntmps23
    go_wp2_with fail
    with_reducible refine M.out.mono ?_
    rintro _ w1 ⟨rfl, b1⟩
    go_wp2_with fail
    go_ret
    exact ⟨rfl, b1⟩
  case pos =>
  cases q
  case true =>
    refine ⟨false, by simp, ?_⟩
    go_enter Tryz.func23, Tryz.ntmps23
    go_wp2_with fail
    with_reducible refine M.out.mono ?_
    rintro _ w1 ⟨rfl, b1⟩
    go_wp2_with fail
    with_reducible refine (H1.out _ b1).mono ?_
    rintro _ w2 ⟨rfl, b2⟩
    go_wp2_with fail
    go_ret
    exact ⟨rfl, bb b1 b2⟩
  case false =>
  cases r
  case true =>
    refine ⟨false, by simp, ?_⟩
    go_enter Tryz.func23, Tryz.ntmps23
    go_wp2_with fail
    with_reducible refine M.out.mono ?_
    rintro _ w1 ⟨rfl, b1⟩
    go_wp2_with fail
    with_reducible refine (H1.out _ b1).mono ?_
    rintro _ w2 ⟨rfl, b2⟩
    go_wp2_with fail
    with_reducible refine (H2.out _ (bb b1 b2)).mono ?_
    rintro _ w3 ⟨rfl, b3⟩
    go_wp2_with fail
    go_ret
    exact ⟨rfl, bb b1 (bb b2 b3)⟩
  case false =>
    refine ⟨true, by simp [h1, h2, h3], ?_⟩
    go_enter Tryz.func23, Tryz.ntmps23
    go_wp2_with fail
    with_reducible refine M.out.mono ?_
    rintro _ w1 ⟨rfl, b1⟩
    go_wp2_with fail
    with_reducible refine (H1.out _ b1).mono ?_
    rintro _ w2 ⟨rfl, b2⟩
    go_wp2_with fail
    with_reducible refine (H2.out _ (bb b1 b2)).mono ?_
    rintro _ w3 ⟨rfl, b3⟩
    go_wp2_with fail
    go_ret
    exact ⟨rfl, bb b1 (bb b2 b3)⟩

set_option maxRecDepth 100000 in
set_option maxHeartbeats 4000000 in
theorem ref_sameR {w : World} {A B : Option Addr} {n c d : Nat} {v : List Rat} (h : SlQ w A n c v) (k : SlQ w B n d v) (z : AllSz 64 v) (hn : n ≤ 65536) :
    Calls Tryz.prog 11 #[.slice A n c, .slice B n d] w (RetBl true w) := by
  have hlen := h.len
  have HL := Lib.hid hlen
  have HH := Lib.hid h
  have HK := Lib.hid k
  clear hlen h k
  go_enter Tryz.func11, Tryz.ntmps11
  go_wp2_with fail
  go_loopw [13] (fun iv wr => ∃ j : Nat, j ≤ n ∧ iv = .int .i64 j ∧ Below w.heap.size w wr) (fun iv _ => n - mes iv)
  case atStart => exact ⟨0, by omega, rfl, Below.refl _ _⟩
  case round =>
    obtain ⟨j, hj, rfl, hb⟩ := hrel
    by_cases hj2 : j < n
    · obtain ⟨b1, o1, sa, A1, n1, c1, A2, n2, c2, rfl, hb1, k0, k1, k2, qa⟩ := (HH.out.below hb).at_ hj2
      obtain ⟨b2, o2, sb, A5, n5, c5, A6, n6, c6, rfl, hb2, j0, j1, j2, qb⟩ := (HK.out.below hb).at_ hj2
      have SM := fun (w1 : World) (hb9 : Below wr.heap.size wr w1) => ref_sameT (qa.below hb9) (qb.below hb9) (z.at_ (by have := HL.out; omega)) (z.at_ (by have := HL.out; omega)) (by omega) rfl
      have hS : ∀ w', Below wr.heap.size wr w' → (w'.cell? ⟨b1, o1 + j * 3, none⟩ = some (.bool sa) ∧ w'.cell? ⟨b1, o1 + j * 3 + 1, none⟩ = some (.slice A1 n1 c1) ∧ w'.cell? ⟨b1, o1 + j * 3 + 2, none⟩ = some (.slice A2 n2 c2)) ∧ (w'.cell? ⟨b2, o2 + j * 3, none⟩ = some (.bool sb) ∧ w'.cell? ⟨b2, o2 + j * 3 + 1, none⟩ = some (.slice A5 n5 c5) ∧ w'.cell? ⟨b2, o2 + j * 3 + 2, none⟩ = some (.slice A6 n6 c6)) := fun w' hb9 =>
        ⟨⟨(hb9.cell (p := ⟨b1, o1 + j * 3, none⟩) hb1).trans k0, (hb9.cell (p := ⟨b1, o1 + j * 3 + 1, none⟩) hb1).trans k1, (hb9.cell (p := ⟨b1, o1 + j * 3 + 2, none⟩) hb1).trans k2⟩,
         (hb9.cell (p := ⟨b2, o2 + j * 3, none⟩) hb2).trans j0, (hb9.cell (p := ⟨b2, o2 + j * 3 + 1, none⟩) hb2).trans j1, (hb9.cell (p := ⟨b2, o2 + j * 3 + 2, none⟩) hb2).trans j2⟩
      have HSM := Lib.hid SM
      have HS := Lib.hid hS
      clear SM hS qa qb
      go_wp2_with fail
      go_region_held3 (fun w' => (w'.cell? ⟨b1, o1 + j * 3, none⟩ = some (.bool sa) ∧ w'.cell? ⟨b1, o1 + j * 3 + 1, none⟩ = some (.slice A1 n1 c1) ∧ w'.cell? ⟨b1, o1 + j * 3 + 2, none⟩ = some (.slice A2 n2 c2)) ∧ (w'.cell? ⟨b2, o2 + j * 3, none⟩ = some (.bool sb) ∧ w'.cell? ⟨b2, o2 + j * 3 + 1, none⟩ = some (.slice A5 n5 c5) ∧ w'.cell? ⟨b2, o2 + j * 3 + 2, none⟩ = some (.slice A6 n6 c6))) (first | exact HS.out _ (Below.refl _ wr).drew | exact HS.out _ x2 | fail)
        (first
          | (go_at_call 25; (with_reducible refine (HSM.out _ ?hb1).mono ?_); (case hb1 => exact (Below.refl _ wr).drew); rintro _ w2 ⟨rfl, b2'⟩; have x2 : Below wr.heap.size wr w2 := Below.undrew b2'))
      all_goals
        go_wp2_with fail
        go_roundw
        case rel => exact ⟨j + 1, by omega, by go_num, bb hb x2⟩
        case measure => simp [mes, intOf]; omega
    · obtain rfl : j = n := by omega
      go_wp2_with fail
      go_ret
      exact ⟨rfl, hb⟩

end Go.Proofs.YtfhihapgjiaobaaGreat
