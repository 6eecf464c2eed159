/-
  What the document's Near of layer 13 returns for any word. Conditions: the word is below 2^64.
-/
import Derived.Test.YtibgpeaplmcogaaGreatDoorRfSumAllE
import Derived.Test.YtibgpeaplmcogaaGreatDoorFsMathAllE
import Derived.Test.YtibgpeaplmcogaaGreatDoorRfOfAllE
import Derived.Test.YtibgpeaplmcogaaGreatDoorFpMulAllE
import Derived.Test.YtibgpeaplmcogaaGreatDoorFrOfAllE
import Derived.Test.YtibgpeaplmcogaaGreatDoorRefProdAllE
namespace Go.Proofs.YtibgpeaplmcogaaGreatDoor
set_option maxRecDepth 100000
open Go.RowKit
set_option linter.unusedVariables false
set_option linter.unusedSimpArgs false

/-! ### tables and sums -/
/-- the factorials of 0 to 13 -/
def facL : List Int := [1, 1, 2, 6, 24, 120, 720, 5040, 40320, 362880, 3628800, 39916800, 479001600, 6227020800]
def inv1 (n : Int) : Nat := fdiv (fint 1) (fint n)
theorem int_1 : fint 1 = ONE := by decide +kernel
theorem int_2 : fint 2 = TWO := by decide +kernel
theorem exp_tab : ∀ i, i < 13 → inv1 (facL.getD (12 - i) 0) = expC.getD i 0 := by decide +kernel
theorem exp_tab0 : inv1 6227020800 = 4460272573143870729 := by decide +kernel
theorem log_tab : ∀ i : Nat, i < 9 → inv1 (19 - 2 * (i : Int)) = logC.getD i 0 := by decide +kernel
theorem log_tab0 : inv1 21 = 4587023449039406616 := by decide +kernel
theorem fac_step : ∀ i : Nat, i < 13 → facL.getD (i + 1) 0 = facL.getD i 0 * ((i : Int) + 1) := by decide +kernel
theorem fac_le : ∀ i, i < 14 → 1 ≤ facL.getD i 0 ∧ facL.getD i 0 ≤ 6227020800 := by decide +kernel
theorem expC_lt : ∀ i, i < 13 → expC.getD i 0 < 18446744073709551616 := by decide +kernel
theorem logC_lt : ∀ i, i < 9 → logC.getD i 0 < 18446744073709551616 := by decide +kernel
theorem fold_next (cs : List Nat) (f : Nat → Nat → Nat) (a : Nat) {i : Nat} (h : i < cs.length) : (cs.take (i + 1)).foldl f a = f ((cs.take i).foldl f a) (cs.getD i 0) := by
  rw [List.take_add_one, List.foldl_append, List.getElem?_eq_getElem h]
  simp [List.getD, List.getElem?_eq_getElem h]
def expS (r i : Nat) : Nat := (expC.take i).foldl (fun p c => fadd (fmul p r) c) 4460272573143870729
def logS (z i : Nat) : Nat := (logC.take i).foldl (fun p c => fadd (fmul p z) c) 4587023449039406616
theorem expS_0 (r : Nat) : expS r 0 = 4460272573143870729 := rfl
theorem logS_0 (z : Nat) : logS z 0 = 4587023449039406616 := rfl
theorem expS_end (r : Nat) : expS r 13 = expP r := rfl
theorem logS_end (z : Nat) : logS z 9 = logP z := rfl
theorem expS_next (r : Nat) {i : Nat} (h : i < 13) : expS r (i + 1) = fadd (fmul (expS r i) r) (expC.getD i 0) := fold_next expC _ _ h
theorem logS_next (z : Nat) {i : Nat} (h : i < 9) : logS z (i + 1) = fadd (fmul (logS z i) z) (logC.getD i 0) := fold_next logC _ _ h
theorem expS_lt (r : Nat) {i : Nat} (h : i ≤ 13) : expS r i < 18446744073709551616 := by
  rcases Nat.eq_zero_or_pos i with rfl | h0
  · rw [expS_0]; omega
  · obtain ⟨j, rfl⟩ : ∃ j, i = j + 1 := ⟨i - 1, by omega⟩
    rw [expS_next r (by omega)]
    exact fadd_lt (fmul_lt _ _) (expC_lt j (by omega))
theorem logS_lt (z : Nat) {i : Nat} (h : i ≤ 9) : logS z i < 18446744073709551616 := by
  rcases Nat.eq_zero_or_pos i with rfl | h0
  · rw [logS_0]; omega
  · obtain ⟨j, rfl⟩ : ∃ j, i = j + 1 := ⟨i - 1, by omega⟩
    rw [logS_next z (by omega)]
    exact fadd_lt (fmul_lt _ _) (logC_lt j (by omega))
/-! ### constants -/
theorem PP_lit : PP = 4609176140021203710 := by unfold PP; rfl
theorem LL_lit : LL = 4604418534311723008 := by unfold LL; rfl
theorem ll_lit : ll = 4461442080421002358 := by unfold ll; rfl
theorem ONE_lit : ONE = 4607182418800017408 := by unfold ONE; rfl
theorem TWO_lit : TWO = 4611686018427387904 := by unfold TWO; rfl
theorem RR_lit : RR = 4609047870845172685 := by unfold RR; rfl
/-! ### times powers of 2 -/
theorem sig_word {b : Nat} (f : fld b < 2047) : magR (sig b) 1 (xpo b) = mant b := by
  obtain ⟨h1, h2⟩ := xpo_range f
  rw [(magR_at (m := sig b) (e := xpo b) (s := (xpo b + 1074).toNat) (by omega)).1, ← vl_eq]
  exact mag_fv (mant_lt f)
theorem pos_word {b : Nat} (hb : b < 18446744073709551616) (n : ng b = false) : mant b = b := by
  have := sg_mant b hb
  rw [n, sg_false] at this
  exact this
/-- a double that is m * 2^e just so, and the same times another power -/
theorem scale_twice {m : Nat} {e : Int} (hm : m < 9007199254740992) (h1 : -1074 ≤ e) (h2 : e ≤ 971) (t : Int) :
    magR m 1 e < INF ∧ fld (magR m 1 e) < 2047 ∧ ng (magR m 1 e) = false ∧ fv (magR m 1 e) = m * 2 ^ (e + 1074).toNat ∧ fscale (magR m 1 e) t = magR m 1 (e + t) := by
  obtain ⟨s, hs⟩ : ∃ s : Nat, e + 1074 = s := ⟨(e + 1074).toNat, by omega⟩
  have hx := ex_any (x := m) (s := s) (by rw [B52_eq]; omega) (by omega)
  obtain ⟨v1, v2⟩ := ex_val hx
  have e1 := (magR_at (m := m) hs).1
  rw [← e1] at v1 v2
  clear e1 hx
  rw [show (e + 1074).toNat = s by omega]
  generalize magR m 1 e = b at *
  have hI := INF_lit
  have hb : mant b = b := by unfold mant; omega
  have hf : fld b < 2047 := fld_of (Nat.le_of_eq hb) v2
  have hn : ng b = false := by unfold ng; exact decide_eq_false (by omega)
  have hv := vl_eq b
  have hvl : vl b = fv (mant b) := rfl
  rw [hvl, hb, v1] at hv
  obtain ⟨x1, x2⟩ := xpo_range hf
  refine ⟨v2, hf, hn, v1, ?_⟩
  have hsc : fscale b t = magR (sig b) 1 (xpo b + t) := by
    unfold fscale
    rw [if_pos hf, hn, sg_false]
  rw [hsc]
  exact magR_eq (a := (xpo b + 1074).toNat) (b := s) (by omega) (by omega) (by rw [Nat.mul_one, Nat.mul_one, ← hv]) (by omega)
theorem fless_pos {a b : Nat} (fa : fld a < 2047) (fb : fld b < 2047) (na : ng a = false) (nb : ng b = false) : fless a b = decide (a < b) := by
  have k1 := kd_of fa
  have k2 := kd_of fb
  unfold fless
  rw [if_neg (by omega), na, nb]
  simp
theorem one_parts : fld ONE < 2047 ∧ ng ONE = false ∧ fld TWO < 2047 ∧ ng TWO = false ∧ fld RR < 2047 ∧ ng RR = false := by decide +kernel
/-- where a double lies, by its digits -/
theorem log_where {m : Nat} {e : Int} (h0 : 0 < m) (hm : m < 9007199254740992) (h1 : -1074 ≤ e) (h2 : e ≤ 971) :
    fless (magR m 1 e) ONE = decide ((blen m : Int) + e ≤ 0) ∧ fless (magR m 1 e) TWO = decide ((blen m : Int) + e ≤ 1) := by
  obtain ⟨a1, a2, a3, a4, _⟩ := scale_twice hm h1 h2 0
  obtain ⟨o1, o2, o3, o4, _, _⟩ := one_parts
  obtain ⟨l1, l2, _⟩ := kn_lt
  obtain ⟨f1, f2, _⟩ := kn_fv
  rw [fless_pos a2 o1 a3 o2, fless_pos a2 o3 a3 o4]
  have hK := K74_eq
  have key : ∀ c, c < INF → (magR m 1 e < c ↔ fv (magR m 1 e) < fv c) := by
    intro c hc
    refine ⟨fun h => fv_lt a1 hc h, fun h => ?_⟩
    rcases Nat.lt_or_ge (magR m 1 e) c with h9 | h9
    · exact h9
    · have := fv_mono a1 h9
      omega
  have hb := blen_mul_pow h0 (e + 1074).toNat
  have two : 2 * OO = 2 ^ (K74 + 1) := by rw [OO_eq, Nat.pow_succ]; omega
  have cmp : ∀ k : Nat, (m * 2 ^ (e + 1074).toNat < 2 ^ k ↔ blen m + (e + 1074).toNat ≤ k) := by
    intro k
    rw [← hb]
    refine ⟨fun h => blen_le h, fun h => Nat.lt_of_lt_of_le (blen_lt _) (Nat.pow_le_pow_right (by omega) h)⟩
  constructor
  · rw [Bool.eq_iff_iff, decide_eq_true_eq, decide_eq_true_eq, key _ l1, a4, f1, OO_eq, cmp]
    omega
  · rw [Bool.eq_iff_iff, decide_eq_true_eq, decide_eq_true_eq, key _ l2, a4, f2, two, cmp]
    omega
theorem lf0_word {x : Nat} (h : 0 < sig x) : magR (sig x) 1 (1 - (blen (sig x) : Int)) = lf0 x ∧ fscale (lf0 x) (-1) = lf0 x - 4503599627370496 ∧ fless RR (lf0 x) = decide (RR < lf0 x) ∧ lf0 x < 18446744073709551616 := by
  obtain ⟨r1, r2⟩ := lf0_range h
  have hsb := sig_blen x
  have hb0 := blen_pos h
  have hI := INF_lit
  have hf : fld (lf0 x) = 1023 := by unfold fld; omega
  have hr : rst (lf0 x) = lf0 x - 4607182418800017408 := by unfold rst; omega
  have hs : sig (lf0 x) = sig x * 2 ^ (53 - blen (sig x)) := by
    unfold sig
    rw [if_neg (by omega), hr]
    show lf0 x - 4607182418800017408 + 4503599627370496 = _
    have : lf0 x = 4602678819172646912 + sig x * 2 ^ (53 - blen (sig x)) := rfl
    unfold sig at this
    omega
  have hx : xpo (lf0 x) = -52 := by unfold xpo; rw [if_neg (by omega), hf]; omega
  have hn : ng (lf0 x) = false := by unfold ng; exact decide_eq_false (by omega)
  have hm : mant (lf0 x) = lf0 x := by unfold mant; omega
  have w1 := sig_word (b := lf0 x) (by omega)
  rw [hs, hx, magR_shift _ _ _ (by omega), hm] at w1
  obtain ⟨_, _, _, _, o5, o6⟩ := one_parts
  refine ⟨?_, ?_, fless_pos o5 (by omega) o6 hn, by omega⟩
  · rw [← w1]; congr 1; omega
  · unfold fscale
    rw [if_pos (by omega), hn, sg_false, hs, hx]
    have hf2 : fld (lf0 x - 4503599627370496) = 1022 := by unfold fld; omega
    have hr2 : rst (lf0 x - 4503599627370496) = lf0 x - 4607182418800017408 := by unfold rst; omega
    have hs2 : sig (lf0 x - 4503599627370496) = sig (lf0 x) := by unfold sig; rw [if_neg (by omega), if_neg (by omega), hr2, hr]
    have hx2 : xpo (lf0 x - 4503599627370496) = -53 := by unfold xpo; rw [if_neg (by omega), hf2]; omega
    have w2 := sig_word (b := lf0 x - 4503599627370496) (by omega)
    rw [hs2, hs, hx2, show mant (lf0 x - 4503599627370496) = lf0 x - 4503599627370496 by unfold mant; omega] at w2
    exact w2

end Go.Proofs.YtibgpeaplmcogaaGreatDoor

namespace Go.Proofs.YtibgpeaplmcogaaGreatDoor
set_option maxRecDepth 100000
open Go.RowKit
set_option linter.unusedVariables false
set_option linter.unusedSimpArgs false

theorem sg_no (v : Nat) : sg false v = v := by unfold sg; rw [if_neg (by decide)]
theorem fc_isn {b : Nat} (hb : b < 18446744073709551616) (w : World) :
    Calls Tryz.prog 218 #[.int .u64 b] w fun e w' => e = .returned (.bool (isn b)) ∧ w = w' := by
  have K := Lib.hid (fb_kind hb w)
  have h : ((kd b : Int) != 4) = isn b := by
    unfold isn
    by_cases h4 : kd b = 4
    · rw [h4]; rfl
    · rw [decide_eq_false h4]; simp; omega
  generalize isn b = t at *
  generalize kd b = k at *
  go_enter Tryz.func218, Tryz.ntmps218
  go_wp2_with fail
  refine K.out.mono ?_
  rintro _ w' ⟨rfl, rfl⟩
  go_wp2_with fail
  go_ret
  exact ⟨rfl, rfl⟩
theorem fc_rank {b : Nat} (hb : b < 18446744073709551616) (w : World) :
    Calls Tryz.prog 219 #[.int .u64 b] w fun e w' => e = .returned (.int .i64 (rk b)) ∧ w = w' := by
  have N := Lib.hid (fb_neg hb w)
  have m1 : IntKind.u64.wrap ((b : Int) * 2) = ((2 * mant b : Nat) : Int) := by unfold mant; rw [wrapU]; omega
  have hm : mant b < 9223372036854775808 := by unfold mant; omega
  have hr : rk b = if ng b = true then -(mant b : Int) else mant b := rfl
  generalize rk b = r at *
  generalize mant b = m at *
  generalize ng b = s at *
  have m2 : ((2 * m : Nat) : Int) / 2 = (m : Int) := by omega
  have HR := Lib.hid hr
  clear hr
  cases s
  · go_enter Tryz.func219, Tryz.ntmps219
    go_wp2_with fail
    refine N.out.mono ?_
    rintro _ w' ⟨rfl, rfl⟩
    go_wp2_with fail
    go_ret
    exact ⟨ret1 (by rw [HR.out]; simp), rfl⟩
  · go_enter Tryz.func219, Tryz.ntmps219
    go_wp2_with fail
    refine N.out.mono ?_
    rintro _ w' ⟨rfl, rfl⟩
    go_wp2_with fail
    go_ret
    exact ⟨ret1 (by rw [HR.out]; simp), rfl⟩
theorem fc_less {a b : Nat} (ha : a < 18446744073709551616) (hb : b < 18446744073709551616) (w : World) :
    Calls Tryz.prog 164 #[.int .u64 a, .int .u64 b] w fun e w' => e = .returned (.bool (fless a b)) ∧ w = w' := by
  rw [fless_rk ha hb]
  have N1 := Lib.hid (fc_isn ha w)
  have N2 := Lib.hid (fc_isn hb w)
  have R1 := Lib.hid (fc_rank ha w)
  have R2 := Lib.hid (fc_rank hb w)
  generalize isn a = s at *
  generalize isn b = t at *
  generalize rk a = x at *
  generalize rk b = y at *
  cases s
  · go_enter Tryz.func164, Tryz.ntmps164
    go_wp2_with fail
    refine N1.out.mono ?_
    rintro _ w' ⟨rfl, rfl⟩
    go_wp2_with fail
    go_ret
    exact ⟨rfl, rfl⟩
  · cases t
    · go_enter Tryz.func164, Tryz.ntmps164
      go_wp2_with fail
      refine N1.out.mono ?_
      rintro _ w' ⟨rfl, rfl⟩
      go_wp2_with fail
      refine N2.out.mono ?_
      rintro _ w' ⟨rfl, rfl⟩
      go_wp2_with fail
      go_ret
      exact ⟨rfl, rfl⟩
    · go_enter Tryz.func164, Tryz.ntmps164
      go_wp2_with fail
      refine N1.out.mono ?_
      rintro _ w' ⟨rfl, rfl⟩
      go_wp2_with fail
      refine N2.out.mono ?_
      rintro _ w' ⟨rfl, rfl⟩
      go_wp2_with fail
      refine R1.out.mono ?_
      rintro _ w' ⟨rfl, rfl⟩
      go_wp2_with fail
      refine R2.out.mono ?_
      rintro _ w' ⟨rfl, rfl⟩
      go_wp2_with fail
      go_ret
      exact ⟨retB (by simp), rfl⟩
set_option maxHeartbeats 2000000 in
theorem fc_scale {b : Nat} (hb : b < 18446744073709551616) (k : Int) (w : World) :
    Calls Tryz.prog 168 #[.int .u64 b, .int .i64 k] w (RetW (fscale b k) w) := by
  unfold fscale
  by_cases hf : fld b < 2047
  · rw [if_pos hf, ← scale_clamp hf k (L := 2200) (by omega)]
    obtain ⟨x1, x2⟩ := xpo_range hf
    have hs := sig_lt b
    have P := Lib.hid (fb_partsY hb hf w)
    obtain ⟨c, hc⟩ : ∃ c, min (max k (-2200)) 2200 = c := ⟨_, rfl⟩
    rw [hc]
    have hc1 : -2200 ≤ c ∧ c ≤ 2200 := by omega
    have W := Lib.hid (fr_word (ng b) (m := sig b) (by omega) (e := xpo b + c) (by omega) (by omega) w)
    generalize magR (sig b) 1 (xpo b + c) = M at *
    generalize sig b = m at *
    generalize xpo b = x at *
    generalize ng b = s at *
    go_enter Tryz.func168, Tryz.ntmps168
    go_wp2_with fail
    refine P.out.mono ?_
    rintro _ w' ⟨rfl, rfl⟩
    by_cases h1 : k < -2200
    · obtain rfl : c = -2200 := by omega
      go_wp2_with fail
      with_reducible refine W.out.mono ?_
      rintro _ w' ⟨rfl, b1⟩
      go_wp2_with fail
      go_ret
      exact ⟨rfl, b1⟩
    · by_cases h2 : 2200 < k
      · obtain rfl : c = 2200 := by omega
        have h3 : decide (2200 < k) = true := decide_eq_true h2
        go_wp2_with fail
        with_reducible refine W.out.mono ?_
        rintro _ w' ⟨rfl, b1⟩
        go_wp2_with fail
        go_ret
        exact ⟨rfl, b1⟩
      · obtain rfl : c = k := by omega
        go_wp2_with fail
        with_reducible refine W.out.mono ?_
        rintro _ w' ⟨rfl, b1⟩
        go_wp2_with fail
        go_ret
        exact ⟨rfl, b1⟩
  · rw [if_neg hf]
    have P := Lib.hid (fb_partsN hb hf w)
    have C := Lib.hid (fb_clean hb w)
    generalize cln b = r at *
    go_enter Tryz.func168, Tryz.ntmps168
    go_wp2_with fail
    refine P.out.mono ?_
    rintro _ w' ⟨rfl, rfl⟩
    go_wp2_with fail
    refine C.out.mono ?_
    rintro _ w' ⟨rfl, rfl⟩
    go_wp2_with fail
    go_ret
    exact ⟨rfl, Below.refl _ _⟩

/-- the nearest integer, as it is handed out -/
def RetN (b : Nat) (w : World) (x : Ending) (w' : World) : Prop := x = .returned (.tuple #[.int .i64 (nrv b), .bool (nok b)]) ∧ Below w.heap.size w w'
theorem retN {a c : Int} {p q : Bool} (h : a = c) (h' : p = q) : Ending.returned (.tuple #[.int .i64 a, .bool p]) = .returned (.tuple #[.int .i64 c, .bool q]) := by rw [h, h']

set_option maxHeartbeats 4000000 in
theorem fc_near {b : Nat} (hb : b < 18446744073709551616) (w : World) :
    Calls Tryz.prog 166 #[.int .u64 b] w (RetN b w) := by
  unfold RetN
  by_cases hf : fld b < 2047
  · obtain ⟨x1, x2⟩ := xpo_range hf
    have hs := sig_lt b
    have P := Lib.hid (fb_partsY hb hf w)
    have L0 := limb_len (sig b : Int) (by unfold U; omega) w
    rw [Int.toNat_natCast] at L0
    have L := Lib.hid L0
    clear L0
    have hbl : blen (sig b) ≤ 53 := blen_le (by omega)
    by_cases hn : (blen (sig b) : Int) + xpo b ≤ 62
    · have ho : nok b = true := by unfold nok; rw [decide_eq_true hf, decide_eq_true hn]; rfl
      obtain ⟨q1, q2⟩ := near_fits ho
      have hv : nrv b = fnv b := by unfold nrv; rw [if_pos ho]
      rw [ho, hv]
      clear hv ho
      rcases Int.lt_or_le (xpo b) 0 with hl | hl
      · obtain ⟨k, hk⟩ : ∃ k : Nat, xpo b = -(k : Int) := ⟨(-(xpo b)).toNat, by omega⟩
        have hk1 : 1 ≤ k := by omega
        obtain ⟨y1, y2, y3, y4⟩ := near_word hs hk1
        have q3 := q2 k hk1 hk
        rw [fnv_dn hf hk]
        rw [← hk, Int.sub_eq_add_neg] at y1 y2 y3 y4
        have W := Lib.hid (fr_word false (m := sig b) (by omega) (e := xpo b + -1074) (by omega) (by omega) w)
        rw [sg_no] at W
        have P2 := fun w1 => fb_partsY y1 y2 w1
        rw [y3, y4] at P2
        generalize magR (sig b) 1 (xpo b + -1074) = M at *
        generalize xpo M = X2 at *
        generalize rdiv (sig b) (2 ^ k) = R at *
        generalize blen (sig b) = n at *
        generalize sig b = m at *
        generalize ng b = s at *
        generalize xpo b = z at *
        have HP2 := Lib.hid P2
        have hR : sI s R = if s = true then -(R : Int) else R := rfl
        clear y1 y2 y3 y4 P2 q1 q2 hk
        go_enter Tryz.func166, Tryz.ntmps166
        go_wp2_with fail
        refine P.out.mono ?_
        rintro _ w' ⟨rfl, rfl⟩
        go_wp2_with fail
        refine L.out.mono ?_
        rintro _ w' ⟨rfl, rfl⟩
        go_wp2_with fail
        with_reducible refine W.out.mono ?_
        rintro _ w1 ⟨rfl, b1⟩
        go_wp2_with fail
        with_reducible refine (HP2.out _).mono ?_
        rintro _ w' ⟨rfl, rfl⟩
        cases s
        · go_wp2_with fail
          go_ret2
          exact ⟨retN (by rw [hR]; simp) rfl, b1⟩
        · go_wp2_with fail
          go_ret2
          exact ⟨retN (by rw [hR]; simp) rfl, b1⟩
      · obtain ⟨x, hx⟩ : ∃ x : Nat, xpo b = x := ⟨(xpo b).toNat, by omega⟩
        have q3 := q1 x hx
        rw [fnv_up hf hx]
        have e1 : IntKind.u64.wrap ((sig b : Int) * 2 ^ x) = ((sig b * 2 ^ x : Nat) : Int) := by
          have hc : (sig b : Int) * 2 ^ x = ((sig b * 2 ^ x : Nat) : Int) := by push_cast; rfl
          rw [hc, wrapU]
          omega
        rw [hx] at P hn x1 x2
        generalize sig b * 2 ^ x = R at *
        generalize blen (sig b) = n at *
        generalize sig b = m at *
        generalize ng b = s at *
        have hR : sI s R = if s = true then -(R : Int) else R := rfl
        clear q1 q2
        go_enter Tryz.func166, Tryz.ntmps166
        go_wp2_with fail
        refine P.out.mono ?_
        rintro _ w' ⟨rfl, rfl⟩
        go_wp2_with fail
        refine L.out.mono ?_
        rintro _ w' ⟨rfl, rfl⟩
        cases s
        · go_wp2_with fail
          go_ret2
          exact ⟨retN (by rw [hR]; simp) rfl, Below.refl _ _⟩
        · go_wp2_with fail
          go_ret2
          exact ⟨retN (by rw [hR]; simp) rfl, Below.refl _ _⟩
    · have ho : nok b = false := by unfold nok; rw [decide_eq_true hf, decide_eq_false hn]; rfl
      have hv : nrv b = 0 := by unfold nrv; rw [ho]; rfl
      rw [ho, hv]
      generalize blen (sig b) = n at *
      generalize sig b = m at *
      generalize xpo b = x at *
      generalize ng b = s at *
      have hd : decide (62 < (n : Int) + x) = true := decide_eq_true (by omega)
      go_enter Tryz.func166, Tryz.ntmps166
      go_wp2_with fail
      refine P.out.mono ?_
      rintro _ w' ⟨rfl, rfl⟩
      go_wp2_with fail
      refine L.out.mono ?_
      rintro _ w' ⟨rfl, rfl⟩
      go_wp2_with fail
      go_ret2
      exact ⟨rfl, Below.refl _ _⟩
  · have P := Lib.hid (fb_partsN hb hf w)
    have ho : nok b = false := by unfold nok; rw [decide_eq_false hf]; rfl
    have hv : nrv b = 0 := by unfold nrv; rw [ho]; rfl
    rw [ho, hv]
    go_enter Tryz.func166, Tryz.ntmps166
    go_wp2_with fail
    refine P.out.mono ?_
    rintro _ w' ⟨rfl, rfl⟩
    go_wp2_with fail
    go_ret2
    exact ⟨rfl, Below.refl _ _⟩

end Go.Proofs.YtibgpeaplmcogaaGreatDoor

namespace Go.Proofs.YtibgpeaplmcogaaGreatDoor
set_option maxRecDepth 100000
open Go.RowKit
set_option linter.unusedVariables false
set_option linter.unusedSimpArgs false

/-- the variable factorials holds the factorials -/
def Fac (w : World) : Prop := 1 < w.heap.size ∧ ∀ r, r < 14 → w.cell? ⟨1, r, none⟩ = some (.int .i64 (facL.getD r 0))
theorem Fac.below {w w' : World} (h : Fac w) (b : Below w.heap.size w w') : Fac w' :=
  ⟨Nat.lt_of_lt_of_le h.1 b.size, fun r hr => (b.cell (p := ⟨1, r, none⟩) h.1).trans (h.2 r hr)⟩
theorem fdiv_lt (a b : Nat) : fdiv a b < 18446744073709551616 := by
  unfold fdiv
  split
  · unfold NAN; omega
  · split
    · exact sg_lt (Nat.le_refl _)
    · split
      · exact sg_lt (Nat.zero_le _)
      · exact sg_lt (mag_le _ _)
theorem inv1_lt (n : Int) : inv1 n < 18446744073709551616 := fdiv_lt _ _

theorem kn_inv (n : Int) (h1 : -9223372036854775808 ≤ n) (h2 : n ≤ 9223372036854775807) (w : World) :
    Calls Tryz.prog 220 #[.int .i64 n] w (RetW (inv1 n) w) := by
  have A1 := fun w1 => fr_int 1 (by omega) (by omega) w1
  have A2 := fun w1 => fr_int n h1 h2 w1
  have A3 := fun w1 => fp_div (fint_lt 1) (fint_lt n) w1
  change ∀ w1, Calls _ _ _ _ (RetW (fint 1) w1) at A1
  change ∀ w1, Calls _ _ _ _ (RetW (fint n) w1) at A2
  change ∀ w1, Calls _ _ _ _ (RetW (inv1 n) w1) at A3
  generalize inv1 n = r at *
  generalize fint 1 = x at *
  generalize fint n = y at *
  have H1 := Lib.hid A1
  have H2 := Lib.hid A2
  have H3 := Lib.hid A3
  clear A1 A2 A3
  go_enter Tryz.func220, Tryz.ntmps220
  go_wp2_with fail
  with_reducible refine (H1.out _).mono ?_
  rintro _ w1 ⟨rfl, b1⟩
  go_wp2_with fail
  with_reducible refine (H2.out _).mono ?_
  rintro _ w2 ⟨rfl, b2⟩
  go_wp2_with fail
  with_reducible refine (H3.out _).mono ?_
  rintro _ w3 ⟨rfl, b3⟩
  go_wp2_with fail
  go_ret
  exact ⟨rfl, bbw b1 (bbw b2 b3)⟩
theorem kn_next {p x : Nat} (hp : p < 18446744073709551616) (hx : x < 18446744073709551616) (n : Int) (h1 : -9223372036854775808 ≤ n) (h2 : n ≤ 9223372036854775807) (w : World) :
    Calls Tryz.prog 221 #[.int .u64 p, .int .u64 x, .int .i64 n] w (RetW (fadd (fmul p x) (inv1 n)) w) := by
  have A1 := fun w1 => fp_mul hp hx w1
  have A2 := fun w1 => kn_inv n h1 h2 w1
  have A3 := fun w1 => fs_add (fmul_lt p x) (inv1_lt n) w1
  generalize fadd (fmul p x) (inv1 n) = r at *
  generalize fmul p x = y at *
  generalize inv1 n = z at *
  have H1 := Lib.hid A1
  have H2 := Lib.hid A2
  have H3 := Lib.hid A3
  clear A1 A2 A3
  go_enter Tryz.func221, Tryz.ntmps221
  go_wp2_with fail
  with_reducible refine (H1.out _).mono ?_
  rintro _ w1 ⟨rfl, b1⟩
  go_wp2_with fail
  with_reducible refine (H2.out _).mono ?_
  rintro _ w2 ⟨rfl, b2⟩
  go_wp2_with fail
  with_reducible refine (H3.out _).mono ?_
  rintro _ w3 ⟨rfl, b3⟩
  go_wp2_with fail
  go_ret
  exact ⟨rfl, bbw b1 (bbw b2 b3)⟩
def RetWW (u v : Nat) (w : World) (x : Ending) (w' : World) : Prop := x = .returned (.tuple #[.int .u64 u, .int .u64 v]) ∧ Below w.heap.size w w'
theorem kn_ln2 (k : Int) (h1 : -9223372036854775808 ≤ k) (h2 : k ≤ 9223372036854775807) (w : World) :
    Calls Tryz.prog 167 #[.int .i64 k] w (RetWW (fmul (fint k) LL) (fmul (fint k) ll) w) := by
  have A1 := fun w1 => fr_int k h1 h2 w1
  change ∀ w1, Calls _ _ _ _ (RetW (fint k) w1) at A1
  have A2 := fun w1 => fp_mul (fint_lt k) (b := 4604418534311723008) (by omega) w1
  have A3 := fun w1 => fp_mul (fint_lt k) (b := 4461442080421002358) (by omega) w1
  rw [LL_lit, ll_lit]
  generalize fmul (fint k) 4604418534311723008 = u at *
  generalize fmul (fint k) 4461442080421002358 = v at *
  generalize fint k = x at *
  have H1 := Lib.hid A1
  have H2 := Lib.hid A2
  have H3 := Lib.hid A3
  clear A1 A2 A3
  go_enter Tryz.func167, Tryz.ntmps167
  go_wp2_with fail
  with_reducible refine (H1.out _).mono ?_
  rintro _ w1 ⟨rfl, b1⟩
  go_wp2_with fail
  refine (H2.out _).mono ?_
  rintro _ w2 ⟨rfl, b2⟩
  go_wp2_with fail
  refine (H3.out _).mono ?_
  rintro _ w3 ⟨rfl, b3⟩
  go_wp2_with fail
  go_ret2
  exact ⟨rfl, bbw b1 (bbw b2 b3)⟩

set_option maxHeartbeats 2000000 in
theorem kn_series {r : Nat} (hr : r < 18446744073709551616) (w : World) (hF : Fac w) :
    Calls Tryz.prog 169 #[.int .u64 r] w (RetW (expP r) w) := by
  rw [← expS_end]
  have hc : w.cell? ⟨1, 13, none⟩ = some (.int .i64 6227020800) := hF.2 13 (by omega)
  have A1 := kn_inv 6227020800 (by omega) (by omega) w
  rw [exp_tab0, ← expS_0 r] at A1
  have H1 := Lib.hid A1
  have HF := Lib.hid hF
  clear A1 hF
  go_enter Tryz.func169, Tryz.ntmps169
  go_wp2_with fail
  with_reducible refine H1.out.mono ?_
  rintro _ w1 ⟨rfl, b1⟩
  go_wp2_with fail
  clear H1 hc
  go_loopw [4, 11] (fun p iv wr => ∃ (i q : Nat), i ≤ 13 ∧ iv = .int .i64 i ∧ p = .int .u64 q ∧ Hid (q = expS r i) ∧ Below w.heap.size w wr) (fun _ iv _ => 13 - mes iv)
  case atStart => exact ⟨0, _, by omega, rfl, rfl, Lib.hid rfl, b1⟩
  case round =>
    clear b1
    obtain ⟨i, q, hi, rfl, rfl, HQ, hb⟩ := hrel
    by_cases h13 : i = 13
    · subst h13
      go_wp2_with fail
      go_ret
      exact ⟨ret1 (by rw [HQ.out]), hb⟩
    · have hi2 : i < 13 := by omega
      have hF := HF.out.below hb
      obtain ⟨t, ht⟩ : ∃ t : Nat, (12 : Int) - i = t := ⟨12 - i, by omega⟩
      have ht2 : t = 12 - i := by omega
      have hc := hF.2 t (by omega)
      have hv1 := fac_le t (by omega)
      have ht3 := exp_tab i hi2
      rw [← ht2] at ht3
      generalize facL.getD t 0 = v at *
      have hq : q < 18446744073709551616 := by rw [HQ.out]; exact expS_lt r (by omega)
      have A2 := fun w1 => kn_next hq hr v (by omega) (by omega) w1
      rw [ht3, HQ.out, ← expS_next r hi2, ← HQ.out] at A2
      have HN := Lib.hid A2
      clear A2 ht3 hF ht2
      go_wp2_with fail
      with_reducible refine (HN.out _).mono ?_
      rintro _ w2 ⟨rfl, b2⟩
      go_wp2_with fail
      go_roundw
      case rel => exact ⟨i + 1, _, by omega, vint (by omega), rfl, Lib.hid rfl, bbw hb b2⟩
      case measure => simp [mes, intOf]; omega

end Go.Proofs.YtibgpeaplmcogaaGreatDoor

namespace Go.Proofs.YtibgpeaplmcogaaGreatDoor
set_option maxRecDepth 100000
open Go.RowKit
set_option linter.unusedVariables false
set_option linter.unusedSimpArgs false

theorem expP_lt (r : Nat) : expP r < 18446744073709551616 := by rw [← expS_end]; exact expS_lt r (by omega)
set_option maxHeartbeats 4000000 in
theorem kn_exp {x : Nat} (hx : x < 18446744073709551616) (w : World) (hF : Fac w) :
    Calls Tryz.prog 102 #[.int .u64 x] w (RetW (fexp x) w) := by
  have K := Lib.hid (fb_kind hx w)
  by_cases h4 : kd x = 4
  · have e : fexp x = NAN := by unfold fexp; rw [if_pos h4]
    rw [e]
    rw [h4] at K
    have N := Lib.hid (fb_nan w)
    generalize NAN = v at *
    go_enter Tryz.func102, Tryz.ntmps102
    go_wp2_with fail
    refine K.out.mono ?_
    rintro _ w' ⟨rfl, rfl⟩
    go_wp2_with fail
    refine N.out.mono ?_
    rintro _ w' ⟨rfl, rfl⟩
    go_wp2_with fail
    go_ret
    exact ⟨rfl, Below.refl _ _⟩
  have g4 : ((kd x : Int) == 4) = false := by simp; omega
  have I1 := fr_int 710 (by omega) (by omega) w
  change Calls _ _ _ _ (RetW (fint 710) w) at I1
  have HI1 := Lib.hid I1
  have L1 := Lib.hid (fun w1 => fc_less (fint_lt 710) hx w1)
  by_cases h1 : fless (fint 710) x = true
  · have e : fexp x = INF := by unfold fexp; rw [if_neg h4, if_pos h1]
    rw [e]
    rw [h1] at L1
    have N := fun w1 => fb_inf false w1
    rw [sg_false] at N
    have HN := Lib.hid N
    generalize fint 710 = c at *
    generalize INF = v at *
    generalize kd x = k at *
    clear I1 N
    go_enter Tryz.func102, Tryz.ntmps102
    go_wp2_with fail
    refine K.out.mono ?_
    rintro _ w' ⟨rfl, rfl⟩
    go_wp2_with fail
    with_reducible refine HI1.out.mono ?_
    rintro _ w1 ⟨rfl, b1⟩
    go_wp2_with fail
    with_reducible refine (L1.out _).mono ?_
    rintro _ w' ⟨rfl, rfl⟩
    go_wp2_with fail
    with_reducible refine (HN.out _).mono ?_
    rintro _ w' ⟨rfl, rfl⟩
    go_wp2_with fail
    go_ret
    exact ⟨rfl, b1⟩
  have h1f : fless (fint 710) x = false := by simpa using h1
  rw [h1f] at L1
  have I2 := fun w1 => fr_int (-746) (by omega) (by omega) w1
  change ∀ w1, Calls _ _ _ _ (RetW (fint (-746)) w1) at I2
  have HI2 := Lib.hid I2
  have L2 := Lib.hid (fun w1 => fc_less hx (fint_lt (-746)) w1)
  by_cases h2 : fless x (fint (-746)) = true
  · have e : fexp x = 0 := by unfold fexp; rw [if_neg h4, if_neg h1, if_pos h2]
    rw [e]
    rw [h2] at L2
    clear h1 h1f h2 e
    generalize fint 710 = c at *
    generalize fint (-746) = d at *
    generalize kd x = k at *
    clear I1 I2
    go_enter Tryz.func102, Tryz.ntmps102
    go_wp2_with fail
    refine K.out.mono ?_
    rintro _ w' ⟨rfl, rfl⟩
    go_wp2_with fail
    with_reducible refine HI1.out.mono ?_
    rintro _ w1 ⟨rfl, b1⟩
    go_wp2_with fail
    with_reducible refine (L1.out _).mono ?_
    rintro _ w' ⟨rfl, rfl⟩
    go_wp2_with fail
    with_reducible refine (HI2.out _).mono ?_
    rintro _ w2 ⟨rfl, b2⟩
    go_wp2_with fail
    with_reducible refine (L2.out _).mono ?_
    rintro _ w' ⟨rfl, rfl⟩
    go_wp2_with fail
    go_ret
    exact ⟨rfl, bbw b1 b2⟩
  have h2f : fless x (fint (-746)) = false := by simpa using h2
  rw [h2f] at L2
  have e : fexp x = fscale (expP (expR x)) (fnv (fmul x PP)) := by unfold fexp; rw [if_neg h4, if_neg h1, if_neg h2]
  obtain ⟨_, n1, n2⟩ := expR_half hx (exp_range hx h4 h1 h2)
  have ho := nok_of n2 n1
  have hv : nrv (fmul x PP) = fnv (fmul x PP) := by unfold nrv; rw [if_pos ho]
  have hR : expR x = fsub (fsub x (fmul (fint (fnv (fmul x PP))) LL)) (fmul (fint (fnv (fmul x PP))) ll) := rfl
  have M1 : ∀ w1, Calls Tryz.prog 99 #[.int .u64 x, .int .u64 4609176140021203710] w1 (RetW (fmul x PP) w1) := by
    intro w1
    rw [PP_lit]
    exact fp_mul hx (b := 4609176140021203710) (by omega) w1
  have NR := fun w1 => fc_near (fmul_lt x PP) w1
  unfold RetN at NR
  rw [hv, ho] at NR
  have T := fun w1 => kn_ln2 (fnv (fmul x PP)) (by omega) (by omega) w1
  have S1 := fun w1 => fs_sub hx (fmul_lt (fint (fnv (fmul x PP))) LL) w1
  have S2 := fun w1 => fs_sub (fsub_lt (a := x) (b := fmul (fint (fnv (fmul x PP))) LL) hx) (fmul_lt (fint (fnv (fmul x PP))) ll) w1
  rw [← hR] at S2
  have hRl : expR x < 18446744073709551616 := fsub_lt (fsub_lt hx)
  have SE := fun w1 hF => kn_series hRl w1 hF
  have SC := fun w1 => fc_scale (expP_lt (expR x)) (fnv (fmul x PP)) w1
  rw [← e] at SC
  clear e hR hRl h1 h1f h2 h2f ho hv n2 I1 I2 h4
  generalize fexp x = E at *
  generalize expP (expR x) = EP at *
  generalize expR x = ER at *
  generalize fsub x (fmul (fint (fnv (fmul x PP))) LL) = D1 at *
  generalize fmul (fint (fnv (fmul x PP))) LL = U at *
  generalize fmul (fint (fnv (fmul x PP))) ll = V at *
  generalize fnv (fmul x PP) = k at *
  generalize fmul x PP = m at *
  generalize fint 710 = c at *
  generalize fint (-746) = d at *
  generalize kd x = kx at *
  have HM := Lib.hid M1
  have HNR := Lib.hid NR
  have HT := Lib.hid T
  have HS1 := Lib.hid S1
  have HS2 := Lib.hid S2
  have HSE := Lib.hid SE
  have HSC := Lib.hid SC
  have HFac := Lib.hid hF
  clear M1 NR T S1 S2 SE SC hF
  go_enter Tryz.func102, Tryz.ntmps102
  go_wp2_with fail
  refine K.out.mono ?_
  rintro _ w' ⟨rfl, rfl⟩
  go_wp2_with fail
  with_reducible refine HI1.out.mono ?_
  rintro _ w1 ⟨rfl, b1⟩
  go_wp2_with fail
  with_reducible refine (L1.out _).mono ?_
  rintro _ w' ⟨rfl, rfl⟩
  go_wp2_with fail
  with_reducible refine (HI2.out _).mono ?_
  rintro _ w2 ⟨rfl, b2⟩
  go_wp2_with fail
  with_reducible refine (L2.out _).mono ?_
  rintro _ w' ⟨rfl, rfl⟩
  go_wp2_with fail
  with_reducible refine (HM.out _).mono ?_
  rintro _ w3 ⟨rfl, b3⟩
  go_wp2_with fail
  with_reducible refine (HNR.out _).mono ?_
  rintro _ w4 ⟨rfl, b4⟩
  go_wp2_with fail
  with_reducible refine (HT.out _).mono ?_
  rintro _ w5 ⟨rfl, b5⟩
  go_wp2_with fail
  with_reducible refine (HS1.out _).mono ?_
  rintro _ w6 ⟨rfl, b6⟩
  go_wp2_with fail
  with_reducible refine (HS2.out _).mono ?_
  rintro _ w7 ⟨rfl, b7⟩
  have y7 := bbw b1 (bbw b2 (bbw b3 (bbw b4 (bbw b5 (bbw b6 b7)))))
  go_wp2_with fail
  with_reducible refine (HSE.out _ (HFac.out.below y7)).mono ?_
  rintro _ w8 ⟨rfl, b8⟩
  go_wp2_with fail
  with_reducible refine (HSC.out _).mono ?_
  rintro _ w9 ⟨rfl, b9⟩
  go_wp2_with fail
  go_ret
  exact ⟨rfl, bbw y7 (bbw b8 b9)⟩

set_option maxHeartbeats 4000000 in
theorem kn_split {x : Nat} (hx : x < 18446744073709551616) (hk : kd x = 1 ∨ kd x = 2) (hn : ng x = false) (w : World) :
    Calls Tryz.prog 170 #[.int .u64 x] w fun e w' => e = .returned (.tuple #[.int .u64 (lf x), .int .i64 (lk x)]) ∧ Below w.heap.size w w' := by
  have hf : fld x < 2047 := (kd_cases x).2.1 (by omega)
  have hp := sig_pos hk
  have hs := sig_lt x
  have hsb := sig_blen x
  obtain ⟨_, c2, c3, _, _⟩ := lk_cases hx hk hn
  obtain ⟨z1, z2, z3, z4⟩ := lf0_word hp
  have P := Lib.hid (fb_partsY hx hf w)
  have L0 := limb_len (sig x : Int) (by unfold U; omega) w
  rw [Int.toNat_natCast] at L0
  have HL := Lib.hid L0
  have hlk : xpo x + (blen (sig x) : Int) - 1 = lk0 x := rfl
  have hsc : fscale x (-(lk0 x)) = lf0 x := by
    unfold fscale
    rw [if_pos hf, hn, sg_false, ← z1]
    congr 1
    rw [← hlk]
    omega
  have S1 := fun w1 => fc_scale hx (-(lk0 x)) w1
  rw [hsc] at S1
  have LE : ∀ w1, Calls Tryz.prog 164 #[.int .u64 4609047870845172685, .int .u64 (lf0 x)] w1 fun e w' => e = .returned (.bool (decide (RR < lf0 x))) ∧ w1 = w' := by
    intro w1
    rw [← z3, RR_lit]
    exact fc_less (a := 4609047870845172685) (by omega) z4 w1
  have S2 := fun w1 => fc_scale z4 (-1) w1
  rw [z2] at S2
  obtain ⟨x1, x2⟩ := xpo_range hf
  have hF : lf x = if RR < lf0 x then lf0 x - 4503599627370496 else lf0 x := rfl
  have hK : lk x = if RR < lf0 x then lk0 x + 1 else lk0 x := rfl
  clear hsc z1 z2 z3 L0
  by_cases hr : RR < lf0 x
  · rw [if_pos hr] at hF hK
    rw [decide_eq_true hr] at LE
    rw [hF, hK]
    clear hF hK
    generalize lf0 x - 4503599627370496 = G at *
    generalize lf0 x = F at *
    generalize lk0 x = k at *
    generalize blen (sig x) = n at *
    generalize sig x = m at *
    generalize xpo x = e at *
    generalize ng x = s at *
    have H1 := Lib.hid S1
    have H2 := Lib.hid S2
    have HE := Lib.hid LE
    clear S1 S2 LE hr
    go_enter Tryz.func170, Tryz.ntmps170
    go_wp2_with fail
    refine P.out.mono ?_
    rintro _ w' ⟨rfl, rfl⟩
    go_wp2_with fail
    refine HL.out.mono ?_
    rintro _ w' ⟨rfl, rfl⟩
    go_wp2_with fail
    with_reducible refine (H1.out _).mono ?_
    rintro _ w1 ⟨rfl, b1⟩
    go_wp2_with fail
    with_reducible refine (HE.out _).mono ?_
    rintro _ w' ⟨rfl, rfl⟩
    go_wp2_with fail
    with_reducible refine (H2.out _).mono ?_
    rintro _ w2 ⟨rfl, b2⟩
    go_wp2_with fail
    go_ret2
    exact ⟨rfl, bbw b1 b2⟩
  · rw [if_neg hr] at hF hK
    rw [decide_eq_false hr] at LE
    rw [hF, hK]
    clear hF hK S2
    generalize lf0 x = F at *
    generalize lk0 x = k at *
    generalize blen (sig x) = n at *
    generalize sig x = m at *
    generalize xpo x = e at *
    generalize ng x = s at *
    have H1 := Lib.hid S1
    have HE := Lib.hid LE
    clear S1 LE hr
    go_enter Tryz.func170, Tryz.ntmps170
    go_wp2_with fail
    refine P.out.mono ?_
    rintro _ w' ⟨rfl, rfl⟩
    go_wp2_with fail
    refine HL.out.mono ?_
    rintro _ w' ⟨rfl, rfl⟩
    go_wp2_with fail
    with_reducible refine (H1.out _).mono ?_
    rintro _ w1 ⟨rfl, b1⟩
    go_wp2_with fail
    with_reducible refine (HE.out _).mono ?_
    rintro _ w' ⟨rfl, rfl⟩
    go_wp2_with fail
    go_ret2
    exact ⟨rfl, b1⟩

end Go.Proofs.YtibgpeaplmcogaaGreatDoor

namespace Go.Proofs.YtibgpeaplmcogaaGreatDoor
set_option maxRecDepth 100000
open Go.RowKit
set_option linter.unusedVariables false
set_option linter.unusedSimpArgs false

set_option maxHeartbeats 2000000 in
theorem rf_less {a b : Nat} (ha : a < 18446744073709551616) (hb : b < 18446744073709551616) (w : World) :
    Calls Tryz.prog 184 #[.int .u64 a, .int .u64 b] w fun e w' => e = .returned (.bool (fless a b)) ∧ w = w' := by
  have K1 := Lib.hid (rf_kind ha w)
  have K2 := Lib.hid (rf_kind hb w)
  have N1 := Lib.hid (rf_neg ha w)
  have N2 := Lib.hid (rf_neg hb w)
  have hF : fless a b = if kd a = 4 ∨ kd b = 4 then false else if ng a = true ∧ ng b = true then decide (b < a) else if ng a = true then (decide (a ≠ 9223372036854775808) || decide (b ≠ 0)) else (!(ng b) && decide (a < b)) := rfl
  generalize fless a b = r at *
  generalize kd a = k1 at *
  generalize kd b = k2 at *
  generalize ng a = s at *
  generalize ng b = t at *
  by_cases h1 : k1 = 4
  · subst h1
    rw [if_pos (.inl rfl)] at hF
    have HF := Lib.hid hF
    clear hF
    go_enter Tryz.func184, Tryz.ntmps184
    go_wp2_with fail
    refine K1.out.mono ?_
    rintro _ w' ⟨rfl, rfl⟩
    go_wp2_with fail
    go_ret
    exact ⟨retB HF.out.symm, rfl⟩
  have g1 : ((k1 : Int) == 4) = false := by simp; omega
  by_cases h2 : k2 = 4
  · subst h2
    rw [if_pos (.inr rfl)] at hF
    have HF := Lib.hid hF
    clear hF
    go_enter Tryz.func184, Tryz.ntmps184
    go_wp2_with fail
    refine K1.out.mono ?_
    rintro _ w' ⟨rfl, rfl⟩
    go_wp2_with fail
    refine K2.out.mono ?_
    rintro _ w' ⟨rfl, rfl⟩
    go_wp2_with fail
    go_ret
    exact ⟨retB HF.out.symm, rfl⟩
  have g2 : ((k2 : Int) == 4) = false := by simp; omega
  rw [if_neg (by omega)] at hF
  have HF := Lib.hid hF
  clear hF
  go_enter Tryz.func184, Tryz.ntmps184
  go_wp2_with fail
  refine K1.out.mono ?_
  rintro _ w' ⟨rfl, rfl⟩
  go_wp2_with fail
  refine K2.out.mono ?_
  rintro _ w' ⟨rfl, rfl⟩
  go_wp2_with fail
  refine N1.out.mono ?_
  rintro _ w' ⟨rfl, rfl⟩
  go_wp2_with fail
  refine N2.out.mono ?_
  rintro _ w' ⟨rfl, rfl⟩
  cases s <;> cases t
  · go_wp2_with fail
    go_ret
    exact ⟨retB (by rw [HF.out]; simp), rfl⟩
  · go_wp2_with fail
    go_ret
    exact ⟨retB (by rw [HF.out]; simp), rfl⟩
  · by_cases h3 : a = 9223372036854775808
    · subst h3
      go_wp2_with fail
      go_ret
      exact ⟨retB (by rw [HF.out, Bool.eq_iff_iff]; simp), rfl⟩
    · have g3 : ((a : Int) != 9223372036854775808) = true := by simp; omega
      go_wp2_with fail
      go_ret
      exact ⟨retB (by rw [HF.out]; simp [h3]), rfl⟩
  · go_wp2_with fail
    go_ret
    exact ⟨retB (by rw [HF.out]; simp), rfl⟩

set_option maxHeartbeats 4000000 in
theorem rf_scale {b : Nat} (hb : b < 18446744073709551616) (k : Int) (w : World) :
    Calls Tryz.prog 189 #[.int .u64 b, .int .i64 k] w (RetW (fscale b k) w) := by
  unfold fscale
  have F := Lib.hid (rf_finite hb w)
  by_cases hf : fld b < 2047
  · have hfin : fin b = true := decide_eq_true hf
    rw [hfin] at F
    rw [if_pos hf, ← scale_clamp hf k (L := 9000) (by omega)]
    obtain ⟨x1, x2⟩ := xpo_range hf
    have hs := sig_lt b
    have P := Lib.hid (rf_parts hb w)
    have N := Lib.hid (rf_neg hb w)
    obtain ⟨c, hc⟩ : ∃ c, min (max k (-9000)) 9000 = c := ⟨_, rfl⟩
    rw [hc]
    have hc1 : -9000 ≤ c ∧ c ≤ 9000 := by omega
    have W0 := rf_of (ng b) (sl_lit w (sig b : Int) (by unfold U; omega)) (by omega) (e := xpo b + c) (by omega) (by omega)
    rw [val_one, Int.toNat_natCast] at W0
    have W := Lib.hid W0
    clear W0
    generalize magR (sig b) 1 (xpo b + c) = M at *
    generalize sig b = m at *
    generalize xpo b = x at *
    generalize ng b = s at *
    go_enter Tryz.func189, Tryz.ntmps189
    go_wp2_with fail
    refine F.out.mono ?_
    rintro _ w' ⟨rfl, rfl⟩
    go_wp2_with fail
    refine P.out.mono ?_
    rintro _ w' ⟨rfl, rfl⟩
    go_wp2_with fail
    refine N.out.mono ?_
    rintro _ w' ⟨rfl, rfl⟩
    by_cases h1 : k < -9000
    · obtain rfl : c = -9000 := by omega
      go_wp2_with fail
      with_reducible refine W.out.mono ?_
      rintro _ w' ⟨rfl, b1⟩
      go_wp2_with fail
      go_ret
      exact ⟨rfl, bb (below_alloc _ _) b1⟩
    · by_cases h2 : 9000 < k
      · obtain rfl : c = 9000 := by omega
        have h3 : decide (9000 < k) = true := decide_eq_true h2
        go_wp2_with fail
        with_reducible refine W.out.mono ?_
        rintro _ w' ⟨rfl, b1⟩
        go_wp2_with fail
        go_ret
        exact ⟨rfl, bb (below_alloc _ _) b1⟩
      · obtain rfl : c = k := by omega
        go_wp2_with fail
        with_reducible refine W.out.mono ?_
        rintro _ w' ⟨rfl, b1⟩
        go_wp2_with fail
        go_ret
        exact ⟨rfl, bb (below_alloc _ _) b1⟩
  · have hfin : fin b = false := decide_eq_false hf
    rw [hfin] at F
    rw [if_neg hf]
    have C := Lib.hid (rf_clean hb w)
    generalize cln b = r at *
    go_enter Tryz.func189, Tryz.ntmps189
    go_wp2_with fail
    refine F.out.mono ?_
    rintro _ w' ⟨rfl, rfl⟩
    go_wp2_with fail
    refine C.out.mono ?_
    rintro _ w' ⟨rfl, rfl⟩
    go_wp2_with fail
    go_ret
    exact ⟨rfl, Below.refl _ _⟩

end Go.Proofs.YtibgpeaplmcogaaGreatDoor

namespace Go.Proofs.YtibgpeaplmcogaaGreatDoor
set_option maxRecDepth 100000
open Go.RowKit
set_option linter.unusedVariables false
set_option linter.unusedSimpArgs false

theorem sig_up {b x : Nat} (h : xpo b = x) : 0 < sig b := by
  unfold xpo at h
  unfold sig
  by_cases h0 : fld b = 0
  · rw [if_pos h0] at h; omega
  · rw [if_neg h0]; omega
set_option maxRecDepth 100000 in
set_option maxHeartbeats 4000000 in
theorem rf_near {b : Nat} (hb : b < 18446744073709551616) (w : World) :
    Calls Tryz.prog 186 #[.int .u64 b] w (RetN b w) := by
  unfold RetN
  have F := Lib.hid (rf_finite hb w)
  by_cases hf : fld b < 2047
  · have hfin : fin b = true := decide_eq_true hf
    rw [hfin] at F
    obtain ⟨x1, x2⟩ := xpo_range hf
    have hs := sig_lt b
    have P := Lib.hid (rf_parts hb w)
    have N := fun w1 => rf_neg hb w1
    have hbl : blen (sig b) ≤ 53 := blen_le (by omega)
    have S1 := ref_shl (sl_lit w (sig b : Int) (by unfold U; omega)) (by omega) (xpo b)
    rw [val_one, Int.toNat_natCast] at S1
    obtain ⟨p1, _, _⟩ := dq_parts hf
    have S2 := fun (w1 : World) (A : Option Addr) (n c : Nat) (t : Sl w1 A n c (words (sig b * 2 ^ clampS (xpo b)))) => ref_shr t (by have := t.small p1; omega) (-(xpo b)) (by omega)
    simp only [val_words] at S2
    have BT := fun (w1 : World) (A : Option Addr) (n c : Nat) (Wh : Nat) (t : Sl w1 A n c (words Wh)) (hw : Wh < W ^ 18) => ref_bits t (by have := t.small hw; omega)
    simp only [val_words] at BT
    have hp2 : sig b * 2 ^ clampS (xpo b) / 2 ^ (-(xpo b)).toNat < W ^ 18 := Nat.lt_of_le_of_lt (Nat.div_le_self _ _) p1
    rcases Int.lt_or_le (xpo b) 0 with hl | hl
    · obtain ⟨k, hk⟩ : ∃ k : Nat, xpo b = -(k : Int) := ⟨(-(xpo b)).toNat, by omega⟩
      have hk1 : 1 ≤ k := by omega
      have ho : nok b = true := by unfold nok; rw [decide_eq_true hf, decide_eq_true (by omega)]; rfl
      have hv : nrv b = fnv b := by unfold nrv; rw [if_pos ho]
      have q3 := (near_fits ho).2 k hk1 hk
      rw [ho, hv, fnv_dn hf hk]
      rw [clampS_neg hl, Nat.pow_zero, Nat.mul_one, show (-(xpo b)).toNat = k by omega] at hp2 S2
      rw [clampS_neg hl, Nat.pow_zero, Nat.mul_one] at S1
      have hR : rdiv (sig b) (2 ^ k) = if 2 ^ k < 2 * (sig b % 2 ^ k) ∨ (2 * (sig b % 2 ^ k) = 2 ^ k ∧ sig b / 2 ^ k % 2 = 1) then sig b / 2 ^ k + 1 else sig b / 2 ^ k := rfl
      have hw53 : sig b / 2 ^ k < 9007199254740992 := Nat.lt_of_le_of_lt (Nat.div_le_self _ _) hs
      have hbw : blen (sig b / 2 ^ k) ≤ 53 := blen_le (by omega)
      have hdm := Nat.div_add_mod' (sig b) (2 ^ k)
      have S3 := fun (w1 : World) (A : Option Addr) (n c : Nat) (t : Sl w1 A n c (words (sig b / 2 ^ k))) => ref_shl t (by have := t.small hp2; omega) (-(xpo b))
      simp only [val_words] at S3
      have hc : clampS (-(xpo b)) = k := by rw [show -(xpo b) = (k : Int) by omega]; exact clampS_nat (by omega)
      rw [hc] at S3
      have hpr : sig b / 2 ^ k * 2 ^ k ≤ sig b := by omega
      have hpl : sig b / 2 ^ k * 2 ^ k < W ^ 1 := by rw [Nat.pow_one]; unfold W; omega
      have SB := fun (w1 : World) (A' : Option Addr) (n' c' : Nat) (B : Option Addr) (t1 : Sl w1 B 1 1 [(sig b : Int)]) (t : Sl w1 A' n' c' (words (sig b / 2 ^ k * 2 ^ k))) => ref_nsub t1 t (by omega) (by have := t.small hpl; omega) (by rw [val_words, val_one, Int.toNat_natCast]; exact hpr)
      simp only [val_words, val_one, Int.toNat_natCast] at SB
      rw [show sig b - sig b / 2 ^ k * 2 ^ k = sig b % 2 ^ k by omega] at SB
      have hrl : sig b % 2 ^ k < W ^ 1 := by rw [Nat.pow_one]; unfold W; have := Nat.mod_le (sig b) (2 ^ k); omega
      have hrl2 : 2 * (sig b % 2 ^ k) < W ^ 1 := by rw [Nat.pow_one]; unfold W; have := Nat.mod_le (sig b) (2 ^ k); omega
      have S4 := fun (w1 : World) (A : Option Addr) (n c : Nat) (t : Sl w1 A n c (words (sig b % 2 ^ k))) => ref_shl t (by have := t.small hrl; omega) 1
      simp only [val_words] at S4
      rw [show clampS 1 = 1 by decide, Nat.pow_one, Nat.mul_comm (sig b % 2 ^ k) 2] at S4
      have S5 := fun w1 => ref_shl (sl_lit w1 1 U_1) (by omega) (-(xpo b))
      rw [val_one, show (1 : Int).toNat = 1 from rfl, Nat.one_mul, hc] at S5
      have hTl : 2 ^ k < W ^ 18 := pow_lt_W (by omega)
      have CM := fun (w1 : World) (A A' : Option Addr) (n n' c c' : Nat) (t1 : Sl w1 A n c (words (2 * (sig b % 2 ^ k)))) (t2 : Sl w1 A' n' c' (words (2 ^ k))) => ref_cmp t1 t2 (by have := t1.small hrl2; omega) (by have := t2.small hTl; omega)
      simp only [val_words] at CM
      have hmr : sig b % 2 ^ k < 2 ^ k := Nat.mod_lt _ (Nat.two_pow_pos k)
      clear p1 hpr hpl hrl hrl2 hTl hdm
      generalize rdiv (sig b) (2 ^ k) = R at *
      generalize sig b / 2 ^ k * 2 ^ k = Y at *
      generalize sig b / 2 ^ k = Wh at *
      generalize sig b % 2 ^ k = r at *
      generalize 2 ^ k = T at *
      have BT2 := Lib.hid (fun (w1 : World) (A : Option Addr) (n c : Nat) (t : Sl w1 A n c (words Wh)) => BT w1 A n c Wh t hp2)
      clear hc BT hp2 hv ho
      generalize blen Wh = nb at *
      generalize blen (sig b) = nb2 at *
      generalize sig b = m at *
      generalize xpo b = z at *
      generalize ng b = s at *
      obtain ⟨cv, hcv⟩ : ∃ cv : Int, cmpN (2 * r) T = cv := ⟨_, rfl⟩
      have hcc : (2 * r < T ∧ cv = -1) ∨ (2 * r = T ∧ cv = 0) ∨ (T < 2 * r ∧ cv = 1) := by
        rw [← hcv]
        rcases Nat.lt_trichotomy (2 * r) T with h | h | h
        · exact .inl ⟨h, cmpN_lt h⟩
        · exact .inr (.inl ⟨h, by rw [h]; exact cmpN_eq _⟩)
        · exact .inr (.inr ⟨h, cmpN_gt h⟩)
      rw [hcv] at CM
      have hsR : sI s R = if s = true then -(R : Int) else R := rfl
      have HR := Lib.hid hR
      have HsR := Lib.hid hsR
      have HC := Lib.hid hcc
      have HS1 := Lib.hid S1
      have HS2 := Lib.hid S2
      have HS3 := Lib.hid S3
      have HS4 := Lib.hid S4
      have HS5 := Lib.hid S5
      have HSB := Lib.hid SB
      have HCM := Lib.hid CM
      have HN := Lib.hid N
      clear hR hsR hcc S1 S2 S3 S4 S5 SB CM N hcv hk hmr
      go_enter Tryz.func186, Tryz.ntmps186
      go_wp2_with fail
      refine F.out.mono ?_
      rintro _ w' ⟨rfl, rfl⟩
      go_wp2_with fail
      refine P.out.mono ?_
      rintro _ w' ⟨rfl, rfl⟩
      go_wp2_with fail
      with_reducible refine HS1.out.mono ?_
      rintro _ w1 ⟨A1, n1, c1, rfl, t1, b1⟩
      have y1 := bb (below_alloc w _) b1
      go_wp2_with fail
      with_reducible refine (HS2.out _ _ _ _ t1).mono ?_
      rintro _ w2 ⟨A2, n2, c2, rfl, t2, b2⟩
      have y2 := bb y1 b2
      clear t1 b1 b2 y1
      go_wp2_with fail
      with_reducible refine (BT2.out _ _ _ _ t2).mono ?_
      rintro _ w' ⟨rfl, rfl⟩
      go_upto_if 30 with (fail)
      go_cut [7] (fun s7 wx => s7 = .int .i64 Wh ∧ w2 = wx)
      case first =>
        rcases Nat.eq_zero_or_pos Wh with h0 | h0
        · subst h0
          obtain rfl := sl_zero t2
          go_wp2_with fail
          go_meet
          exact ⟨rfl, rfl⟩
        · obtain ⟨rfl, p, o, rfl, hcell⟩ := sl_onew t2 h0 (by unfold W; omega)
          go_wp2_with fail
          go_meet
          exact ⟨rfl, rfl⟩
      case rest =>
      obtain ⟨rfl, rfl⟩ := hcut
      go_wp2_with fail
      with_reducible refine (HS3.out _ _ _ _ (t2.below (below_alloc _ _))).mono ?_
      rintro _ w3 ⟨A3, n3, c3, rfl, t3, b3⟩
      have L3 := (sl_lit w2 (m : Int) (by unfold U; omega)).below b3
      have y3 := bb y2 (bb (below_alloc w2 _) b3)
      go_wp2_with fail
      with_reducible refine (HSB.out _ _ _ _ _ L3 t3).mono ?_
      rintro _ w4 ⟨A4, n4, c4, rfl, t4, b4⟩
      have y4 := bb y3 b4
      clear t2 t3 b3 L3 b4 y3
      go_wp2_with fail
      with_reducible refine (HS4.out _ _ _ _ t4).mono ?_
      rintro _ w5 ⟨A5, n5, c5, rfl, t5, b5⟩
      have y5 := bb y4 b5
      go_wp2_with fail
      with_reducible refine (HS5.out _).mono ?_
      rintro _ w6 ⟨A6, n6, c6, rfl, t6, b6⟩
      have t7 := t5.below (bb (below_alloc w5 _) b6)
      have y6 := bb y5 (bb (below_alloc w5 _) b6)
      clear t4 t5 b5 b6 y5 y4
      go_wp2_with fail
      with_reducible refine (HCM.out _ _ _ _ _ _ _ t7 t6).mono ?_
      rintro _ w' ⟨rfl, rfl⟩
      clear t6 t7
      have h9 := HR.out
      rcases HC.out with ⟨h, rfl⟩ | ⟨h, rfl⟩ | ⟨h, rfl⟩
      · rw [if_neg (by omega)] at h9
        have H9 := Lib.hid h9
        clear HR HC h9
        go_wp2_with fail
        refine (HN.out _).mono ?_
        rintro _ w' ⟨rfl, rfl⟩
        cases s
        · go_wp2_with fail
          go_ret2
          exact ⟨retN (by rw [HsR.out, H9.out]; simp) rfl, y6⟩
        · go_wp2_with fail
          go_ret2
          exact ⟨retN (by rw [HsR.out, H9.out]; simp) rfl, y6⟩
      · by_cases hodd : Wh % 2 = 1
        · rw [if_pos (by omega)] at h9
          have hm : (Wh : Int).tmod 2 = 1 := by rw [Int.tmod_eq_emod_of_nonneg (by omega)]; omega
          have H9 := Lib.hid h9
          clear HR HC h9
          go_wp2_with fail
          refine (HN.out _).mono ?_
          rintro _ w' ⟨rfl, rfl⟩
          cases s
          · go_wp2_with fail
            go_ret2
            exact ⟨retN (by rw [HsR.out, H9.out]; simp) rfl, y6⟩
          · go_wp2_with fail
            go_ret2
            exact ⟨retN (by rw [HsR.out, H9.out]; simp) rfl, y6⟩
        · rw [if_neg (by omega)] at h9
          have hm : (Wh : Int).tmod 2 = 0 := by rw [Int.tmod_eq_emod_of_nonneg (by omega)]; omega
          have H9 := Lib.hid h9
          clear HR HC h9
          go_wp2_with fail
          refine (HN.out _).mono ?_
          rintro _ w' ⟨rfl, rfl⟩
          cases s
          · go_wp2_with fail
            go_ret2
            exact ⟨retN (by rw [HsR.out, H9.out]; simp) rfl, y6⟩
          · go_wp2_with fail
            go_ret2
            exact ⟨retN (by rw [HsR.out, H9.out]; simp) rfl, y6⟩
      · rw [if_pos (by omega)] at h9
        have H9 := Lib.hid h9
        clear HR HC h9
        go_wp2_with fail
        refine (HN.out _).mono ?_
        rintro _ w' ⟨rfl, rfl⟩
        cases s
        · go_wp2_with fail
          go_ret2
          exact ⟨retN (by rw [HsR.out, H9.out]; simp) rfl, y6⟩
        · go_wp2_with fail
          go_ret2
          exact ⟨retN (by rw [HsR.out, H9.out]; simp) rfl, y6⟩
    · obtain ⟨x, hx⟩ : ∃ x : Nat, xpo b = x := ⟨(xpo b).toNat, by omega⟩
      have h0 := sig_up hx
      have hbw := blen_mul_pow h0 x
      rw [clampS_mid hl (by omega), show (xpo b).toNat = x by omega, show (-(xpo b)).toNat = 0 by omega, Nat.pow_zero, Nat.div_one] at hp2 S2
      rw [clampS_mid hl (by omega), show (xpo b).toNat = x by omega] at S1
      have hok : nok b = true ∧ nrv b = sI (ng b) (sig b * 2 ^ x) ∧ blen (sig b * 2 ^ x) ≤ 62 ∧ sig b * 2 ^ x < 4611686018427387904 ∨ nok b = false ∧ nrv b = 0 ∧ 62 < blen (sig b * 2 ^ x) := by
        by_cases hn : (blen (sig b) : Int) + xpo b ≤ 62
        · have ho : nok b = true := by unfold nok; rw [decide_eq_true hf, decide_eq_true hn]; rfl
          refine .inl ⟨ho, by unfold nrv; rw [if_pos ho, fnv_up hf hx], by omega, (near_fits ho).1 x hx⟩
        · have ho : nok b = false := by unfold nok; rw [decide_eq_true hf, decide_eq_false hn]; rfl
          exact .inr ⟨ho, by unfold nrv; rw [ho]; rfl, by omega⟩
      have hW0 : 0 < sig b * 2 ^ x := Nat.mul_pos h0 (Nat.two_pow_pos x)
      clear p1 hbw h0
      generalize sig b * 2 ^ x = Wh at *
      have BT2 := Lib.hid (fun (w1 : World) (A : Option Addr) (n c : Nat) (t : Sl w1 A n c (words Wh)) => BT w1 A n c Wh t hp2)
      clear BT hp2
      generalize blen Wh = nb at *
      generalize blen (sig b) = nb2 at *
      generalize sig b = m at *
      generalize nrv b = RV at *
      generalize nok b = OK at *
      generalize xpo b = z at *
      generalize ng b = s at *
      have HS1 := Lib.hid S1
      have HS2 := Lib.hid S2
      have HN := Lib.hid N
      clear S1 S2 N hx
      go_enter Tryz.func186, Tryz.ntmps186
      go_wp2_with fail
      refine F.out.mono ?_
      rintro _ w' ⟨rfl, rfl⟩
      go_wp2_with fail
      refine P.out.mono ?_
      rintro _ w' ⟨rfl, rfl⟩
      go_wp2_with fail
      with_reducible refine HS1.out.mono ?_
      rintro _ w1 ⟨A1, n1, c1, rfl, t1, b1⟩
      have y1 := bb (below_alloc w _) b1
      go_wp2_with fail
      with_reducible refine (HS2.out _ _ _ _ t1).mono ?_
      rintro _ w2 ⟨A2, n2, c2, rfl, t2, b2⟩
      have y2 := bb y1 b2
      clear t1 b1 b2 y1
      go_wp2_with fail
      with_reducible refine (BT2.out _ _ _ _ t2).mono ?_
      rintro _ w' ⟨rfl, rfl⟩
      rcases hok with ⟨rfl, rfl, hnb, hWh⟩ | ⟨rfl, rfl, hnb⟩
      · obtain ⟨rfl, p, o, rfl, hcell⟩ := sl_onew t2 hW0 (by unfold W; omega)
        clear HS1 HS2 BT2 t2
        have hsR : sI s Wh = if s = true then -(Wh : Int) else Wh := rfl
        have HsR := Lib.hid hsR
        clear hsR
        go_wp2_with fail
        refine (HN.out _).mono ?_
        rintro _ w' ⟨rfl, rfl⟩
        cases s
        · go_wp2_with fail
          go_ret2
          exact ⟨retN (by rw [HsR.out]; simp) rfl, y2⟩
        · go_wp2_with fail
          go_ret2
          exact ⟨retN (by rw [HsR.out]; simp) rfl, y2⟩
      · have hd : decide (62 < (nb : Int)) = true := decide_eq_true (by omega)
        go_wp2_with fail
        go_ret2
        exact ⟨rfl, y2⟩
  · have hfin : fin b = false := decide_eq_false hf
    rw [hfin] at F
    have ho : nok b = false := by unfold nok; rw [decide_eq_false hf]; rfl
    have hv : nrv b = 0 := by unfold nrv; rw [ho]; rfl
    rw [ho, hv]
    go_enter Tryz.func186, Tryz.ntmps186
    go_wp2_with fail
    refine F.out.mono ?_
    rintro _ w' ⟨rfl, rfl⟩
    go_wp2_with fail
    go_ret2
    exact ⟨rfl, Below.refl _ _⟩

end Go.Proofs.YtibgpeaplmcogaaGreatDoor
