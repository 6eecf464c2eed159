/-
  What the document's functions of layer 13 return for any words. Conditions: the words are below 2^64; Scale's count is any int.
-/
import Derived.Test.YtmoahgiklgicgaaDoorRatAddAll
import Derived.Test.YtmoahgiklgicgaaDoorMemAll
import Derived.Test.YtmoahgiklgicgaaDoorFpMathAll
import Derived.Test.YtmoahgiklgicgaaDoorKnLogAll
import Derived.Test.YtmoahgiklgicgaaDoorFpMulAll
import Derived.Test.YtmoahgiklgicgaaDoorRfOfAll
import Derived.Test.YtmoahgiklgicgaaDoorRefShiftAll
namespace Go.Proofs.YtmoahgiklgicgaaDoor
set_option maxRecDepth 100000
open Go.RowKit
set_option linter.unusedVariables false
set_option linter.unusedSimpArgs false

theorem sg_no (v : Nat) : sg false v = v := by unfold sg; rw [if_neg (by decide)]
theorem fc_isn {b : Nat} (hb : b < 18446744073709551616) (w : World) :
    Calls Tryd.prog 42 #[.int .u64 b] w fun e w' => e = .returned (.bool (isn b)) ∧ w = w' := by
  have K := Lib.hid (fb_kind hb w)
  have h : ((kd b : Int) != 4) = isn b := by
    unfold isn
    by_cases h4 : kd b = 4
    · rw [h4]; rfl
    · rw [decide_eq_false h4]; simp; omega
  generalize isn b = t at *
  generalize kd b = k at *
  go_enter Tryd.func42, Tryd.ntmps42
  go_wp2_with fail
  refine K.out.mono ?_
  rintro _ w' ⟨rfl, rfl⟩
  go_wp2_with fail
  go_ret
  exact ⟨rfl, rfl⟩
theorem fc_rank {b : Nat} (hb : b < 18446744073709551616) (w : World) :
    Calls Tryd.prog 43 #[.int .u64 b] w fun e w' => e = .returned (.int .i64 (rk b)) ∧ w = w' := by
  have N := Lib.hid (fb_neg hb w)
  have m1 : IntKind.u64.wrap ((b : Int) * 2) = ((2 * mant b : Nat) : Int) := by unfold mant; rw [wrapU]; omega
  have hm : mant b < 9223372036854775808 := by unfold mant; omega
  have hr : rk b = if ng b = true then -(mant b : Int) else mant b := rfl
  generalize rk b = r at *
  generalize mant b = m at *
  generalize ng b = s at *
  have m2 : ((2 * m : Nat) : Int) / 2 = (m : Int) := by omega
  have HR := Lib.hid hr
  clear hr
  cases s
  · go_enter Tryd.func43, Tryd.ntmps43
    go_wp2_with fail
    refine N.out.mono ?_
    rintro _ w' ⟨rfl, rfl⟩
    go_wp2_with fail
    go_ret
    exact ⟨ret1 (by rw [HR.out]; simp), rfl⟩
  · go_enter Tryd.func43, Tryd.ntmps43
    go_wp2_with fail
    refine N.out.mono ?_
    rintro _ w' ⟨rfl, rfl⟩
    go_wp2_with fail
    go_ret
    exact ⟨ret1 (by rw [HR.out]; simp), rfl⟩
theorem fc_less {a b : Nat} (ha : a < 18446744073709551616) (hb : b < 18446744073709551616) (w : World) :
    Calls Tryd.prog 15 #[.int .u64 a, .int .u64 b] w fun e w' => e = .returned (.bool (fless a b)) ∧ w = w' := by
  rw [fless_rk ha hb]
  have N1 := Lib.hid (fc_isn ha w)
  have N2 := Lib.hid (fc_isn hb w)
  have R1 := Lib.hid (fc_rank ha w)
  have R2 := Lib.hid (fc_rank hb w)
  generalize isn a = s at *
  generalize isn b = t at *
  generalize rk a = x at *
  generalize rk b = y at *
  cases s
  · go_enter Tryd.func15, Tryd.ntmps15
    go_wp2_with fail
    refine N1.out.mono ?_
    rintro _ w' ⟨rfl, rfl⟩
    go_wp2_with fail
    go_ret
    exact ⟨rfl, rfl⟩
  · cases t
    · go_enter Tryd.func15, Tryd.ntmps15
      go_wp2_with fail
      refine N1.out.mono ?_
      rintro _ w' ⟨rfl, rfl⟩
      go_wp2_with fail
      refine N2.out.mono ?_
      rintro _ w' ⟨rfl, rfl⟩
      go_wp2_with fail
      go_ret
      exact ⟨rfl, rfl⟩
    · go_enter Tryd.func15, Tryd.ntmps15
      go_wp2_with fail
      refine N1.out.mono ?_
      rintro _ w' ⟨rfl, rfl⟩
      go_wp2_with fail
      refine N2.out.mono ?_
      rintro _ w' ⟨rfl, rfl⟩
      go_wp2_with fail
      refine R1.out.mono ?_
      rintro _ w' ⟨rfl, rfl⟩
      go_wp2_with fail
      refine R2.out.mono ?_
      rintro _ w' ⟨rfl, rfl⟩
      go_wp2_with fail
      go_ret
      exact ⟨retB (by simp), rfl⟩
set_option maxHeartbeats 2000000 in
theorem fc_scale {b : Nat} (hb : b < 18446744073709551616) (k : Int) (w : World) :
    Calls Tryd.prog 21 #[.int .u64 b, .int .i64 k] w (RetW (fscale b k) w) := by
  unfold fscale
  by_cases hf : fld b < 2047
  · rw [if_pos hf, ← scale_clamp hf k (L := 2200) (by omega)]
    obtain ⟨x1, x2⟩ := xpo_range hf
    have hs := sig_lt b
    have P := Lib.hid (fb_partsY hb hf w)
    obtain ⟨c, hc⟩ : ∃ c, min (max k (-2200)) 2200 = c := ⟨_, rfl⟩
    rw [hc]
    have hc1 : -2200 ≤ c ∧ c ≤ 2200 := by omega
    have W := Lib.hid (fr_word (ng b) (m := sig b) (by omega) (e := xpo b + c) (by omega) (by omega) w)
    generalize magR (sig b) 1 (xpo b + c) = M at *
    generalize sig b = m at *
    generalize xpo b = x at *
    generalize ng b = s at *
    go_enter Tryd.func21, Tryd.ntmps21
    go_wp2_with fail
    refine P.out.mono ?_
    rintro _ w' ⟨rfl, rfl⟩
    by_cases h1 : k < -2200
    · obtain rfl : c = -2200 := by omega
      go_wp2_with fail
      with_reducible refine W.out.mono ?_
      rintro _ w' ⟨rfl, b1⟩
      go_wp2_with fail
      go_ret
      exact ⟨rfl, b1⟩
    · by_cases h2 : 2200 < k
      · obtain rfl : c = 2200 := by omega
        have h3 : decide (2200 < k) = true := decide_eq_true h2
        go_wp2_with fail
        with_reducible refine W.out.mono ?_
        rintro _ w' ⟨rfl, b1⟩
        go_wp2_with fail
        go_ret
        exact ⟨rfl, b1⟩
      · obtain rfl : c = k := by omega
        go_wp2_with fail
        with_reducible refine W.out.mono ?_
        rintro _ w' ⟨rfl, b1⟩
        go_wp2_with fail
        go_ret
        exact ⟨rfl, b1⟩
  · rw [if_neg hf]
    have P := Lib.hid (fb_partsN hb hf w)
    have C := Lib.hid (fb_clean hb w)
    generalize cln b = r at *
    go_enter Tryd.func21, Tryd.ntmps21
    go_wp2_with fail
    refine P.out.mono ?_
    rintro _ w' ⟨rfl, rfl⟩
    go_wp2_with fail
    refine C.out.mono ?_
    rintro _ w' ⟨rfl, rfl⟩
    go_wp2_with fail
    go_ret
    exact ⟨rfl, Below.refl _ _⟩

/-- the nearest integer, as it is handed out -/
def RetN (b : Nat) (w : World) (x : Ending) (w' : World) : Prop := x = .returned (.tuple #[.int .i64 (nrv b), .bool (nok b)]) ∧ Below w.heap.size w w'
theorem retN {a c : Int} {p q : Bool} (h : a = c) (h' : p = q) : Ending.returned (.tuple #[.int .i64 a, .bool p]) = .returned (.tuple #[.int .i64 c, .bool q]) := by rw [h, h']

set_option maxHeartbeats 4000000 in
theorem fc_near {b : Nat} (hb : b < 18446744073709551616) (w : World) :
    Calls Tryd.prog 18 #[.int .u64 b] w (RetN b w) := by
  unfold RetN
  by_cases hf : fld b < 2047
  · obtain ⟨x1, x2⟩ := xpo_range hf
    have hs := sig_lt b
    have P := Lib.hid (fb_partsY hb hf w)
    have L0 := limb_len (sig b : Int) (by unfold U; omega) w
    rw [Int.toNat_natCast] at L0
    have L := Lib.hid L0
    clear L0
    have hbl : blen (sig b) ≤ 53 := blen_le (by omega)
    by_cases hn : (blen (sig b) : Int) + xpo b ≤ 62
    · have ho : nok b = true := by unfold nok; rw [decide_eq_true hf, decide_eq_true hn]; rfl
      obtain ⟨q1, q2⟩ := near_fits ho
      have hv : nrv b = fnv b := by unfold nrv; rw [if_pos ho]
      rw [ho, hv]
      clear hv ho
      rcases Int.lt_or_le (xpo b) 0 with hl | hl
      · obtain ⟨k, hk⟩ : ∃ k : Nat, xpo b = -(k : Int) := ⟨(-(xpo b)).toNat, by omega⟩
        have hk1 : 1 ≤ k := by omega
        obtain ⟨y1, y2, y3, y4⟩ := near_word hs hk1
        have q3 := q2 k hk1 hk
        rw [fnv_dn hf hk]
        rw [← hk, Int.sub_eq_add_neg] at y1 y2 y3 y4
        have W := Lib.hid (fr_word false (m := sig b) (by omega) (e := xpo b + -1074) (by omega) (by omega) w)
        rw [sg_no] at W
        have P2 := fun w1 => fb_partsY y1 y2 w1
        rw [y3, y4] at P2
        generalize magR (sig b) 1 (xpo b + -1074) = M at *
        generalize xpo M = X2 at *
        generalize rdiv (sig b) (2 ^ k) = R at *
        generalize blen (sig b) = n at *
        generalize sig b = m at *
        generalize ng b = s at *
        generalize xpo b = z at *
        have HP2 := Lib.hid P2
        have hR : sI s R = if s = true then -(R : Int) else R := rfl
        clear y1 y2 y3 y4 P2 q1 q2 hk
        go_enter Tryd.func18, Tryd.ntmps18
        go_wp2_with fail
        refine P.out.mono ?_
        rintro _ w' ⟨rfl, rfl⟩
        go_wp2_with fail
        refine L.out.mono ?_
        rintro _ w' ⟨rfl, rfl⟩
        go_wp2_with fail
        with_reducible refine W.out.mono ?_
        rintro _ w1 ⟨rfl, b1⟩
        go_wp2_with fail
        with_reducible refine (HP2.out _).mono ?_
        rintro _ w' ⟨rfl, rfl⟩
        cases s
        · go_wp2_with fail
          go_ret2
          exact ⟨retN (by rw [hR]; simp) rfl, b1⟩
        · go_wp2_with fail
          go_ret2
          exact ⟨retN (by rw [hR]; simp) rfl, b1⟩
      · obtain ⟨x, hx⟩ : ∃ x : Nat, xpo b = x := ⟨(xpo b).toNat, by omega⟩
        have q3 := q1 x hx
        rw [fnv_up hf hx]
        have e1 : IntKind.u64.wrap ((sig b : Int) * 2 ^ x) = ((sig b * 2 ^ x : Nat) : Int) := by
          have hc : (sig b : Int) * 2 ^ x = ((sig b * 2 ^ x : Nat) : Int) := by push_cast; rfl
          rw [hc, wrapU]
          omega
        rw [hx] at P hn x1 x2
        generalize sig b * 2 ^ x = R at *
        generalize blen (sig b) = n at *
        generalize sig b = m at *
        generalize ng b = s at *
        have hR : sI s R = if s = true then -(R : Int) else R := rfl
        clear q1 q2
        go_enter Tryd.func18, Tryd.ntmps18
        go_wp2_with fail
        refine P.out.mono ?_
        rintro _ w' ⟨rfl, rfl⟩
        go_wp2_with fail
        refine L.out.mono ?_
        rintro _ w' ⟨rfl, rfl⟩
        cases s
        · go_wp2_with fail
          go_ret2
          exact ⟨retN (by rw [hR]; simp) rfl, Below.refl _ _⟩
        · go_wp2_with fail
          go_ret2
          exact ⟨retN (by rw [hR]; simp) rfl, Below.refl _ _⟩
    · have ho : nok b = false := by unfold nok; rw [decide_eq_true hf, decide_eq_false hn]; rfl
      have hv : nrv b = 0 := by unfold nrv; rw [ho]; rfl
      rw [ho, hv]
      generalize blen (sig b) = n at *
      generalize sig b = m at *
      generalize xpo b = x at *
      generalize ng b = s at *
      have hd : decide (62 < (n : Int) + x) = true := decide_eq_true (by omega)
      go_enter Tryd.func18, Tryd.ntmps18
      go_wp2_with fail
      refine P.out.mono ?_
      rintro _ w' ⟨rfl, rfl⟩
      go_wp2_with fail
      refine L.out.mono ?_
      rintro _ w' ⟨rfl, rfl⟩
      go_wp2_with fail
      go_ret2
      exact ⟨rfl, Below.refl _ _⟩
  · have P := Lib.hid (fb_partsN hb hf w)
    have ho : nok b = false := by unfold nok; rw [decide_eq_false hf]; rfl
    have hv : nrv b = 0 := by unfold nrv; rw [ho]; rfl
    rw [ho, hv]
    go_enter Tryd.func18, Tryd.ntmps18
    go_wp2_with fail
    refine P.out.mono ?_
    rintro _ w' ⟨rfl, rfl⟩
    go_wp2_with fail
    go_ret2
    exact ⟨rfl, Below.refl _ _⟩

end Go.Proofs.YtmoahgiklgicgaaDoor

namespace Go.Proofs.YtmoahgiklgicgaaDoor
set_option maxRecDepth 100000
open Go.RowKit
set_option linter.unusedVariables false
set_option linter.unusedSimpArgs false

/-- the variable factorials holds the factorials -/
def Fac (w : World) : Prop := 0 < w.heap.size ∧ ∀ r, r < 14 → w.cell? ⟨0, r, none⟩ = some (.int .i64 (facL.getD r 0))
theorem Fac.below {w w' : World} (h : Fac w) (b : Below w.heap.size w w') : Fac w' :=
  ⟨Nat.lt_of_lt_of_le h.1 b.size, fun r hr => (b.cell (p := ⟨0, r, none⟩) h.1).trans (h.2 r hr)⟩
theorem fdiv_lt (a b : Nat) : fdiv a b < 18446744073709551616 := by
  unfold fdiv
  split
  · unfold NAN; omega
  · split
    · exact sg_lt (Nat.le_refl _)
    · split
      · exact sg_lt (Nat.zero_le _)
      · exact sg_lt (mag_le _ _)
theorem inv1_lt (n : Int) : inv1 n < 18446744073709551616 := fdiv_lt _ _

theorem kn_inv (n : Int) (h1 : -9223372036854775808 ≤ n) (h2 : n ≤ 9223372036854775807) (w : World) :
    Calls Tryd.prog 52 #[.int .i64 n] w (RetW (inv1 n) w) := by
  have A1 := fun w1 => fr_int 1 (by omega) (by omega) w1
  have A2 := fun w1 => fr_int n h1 h2 w1
  have A3 := fun w1 => fp_div (fint_lt 1) (fint_lt n) w1
  change ∀ w1, Calls _ _ _ _ (RetW (fint 1) w1) at A1
  change ∀ w1, Calls _ _ _ _ (RetW (fint n) w1) at A2
  change ∀ w1, Calls _ _ _ _ (RetW (inv1 n) w1) at A3
  generalize inv1 n = r at *
  generalize fint 1 = x at *
  generalize fint n = y at *
  have H1 := Lib.hid A1
  have H2 := Lib.hid A2
  have H3 := Lib.hid A3
  clear A1 A2 A3
  go_enter Tryd.func52, Tryd.ntmps52
  go_wp2_with fail
  with_reducible refine (H1.out _).mono ?_
  rintro _ w1 ⟨rfl, b1⟩
  go_wp2_with fail
  with_reducible refine (H2.out _).mono ?_
  rintro _ w2 ⟨rfl, b2⟩
  go_wp2_with fail
  with_reducible refine (H3.out _).mono ?_
  rintro _ w3 ⟨rfl, b3⟩
  go_wp2_with fail
  go_ret
  exact ⟨rfl, bbw b1 (bbw b2 b3)⟩
theorem kn_next {p x : Nat} (hp : p < 18446744073709551616) (hx : x < 18446744073709551616) (n : Int) (h1 : -9223372036854775808 ≤ n) (h2 : n ≤ 9223372036854775807) (w : World) :
    Calls Tryd.prog 53 #[.int .u64 p, .int .u64 x, .int .i64 n] w (RetW (fadd (fmul p x) (inv1 n)) w) := by
  have A1 := fun w1 => fp_mul hp hx w1
  have A2 := fun w1 => kn_inv n h1 h2 w1
  have A3 := fun w1 => fs_add (fmul_lt p x) (inv1_lt n) w1
  generalize fadd (fmul p x) (inv1 n) = r at *
  generalize fmul p x = y at *
  generalize inv1 n = z at *
  have H1 := Lib.hid A1
  have H2 := Lib.hid A2
  have H3 := Lib.hid A3
  clear A1 A2 A3
  go_enter Tryd.func53, Tryd.ntmps53
  go_wp2_with fail
  with_reducible refine (H1.out _).mono ?_
  rintro _ w1 ⟨rfl, b1⟩
  go_wp2_with fail
  with_reducible refine (H2.out _).mono ?_
  rintro _ w2 ⟨rfl, b2⟩
  go_wp2_with fail
  with_reducible refine (H3.out _).mono ?_
  rintro _ w3 ⟨rfl, b3⟩
  go_wp2_with fail
  go_ret
  exact ⟨rfl, bbw b1 (bbw b2 b3)⟩
def RetWW (u v : Nat) (w : World) (x : Ending) (w' : World) : Prop := x = .returned (.tuple #[.int .u64 u, .int .u64 v]) ∧ Below w.heap.size w w'
theorem kn_ln2 (k : Int) (h1 : -9223372036854775808 ≤ k) (h2 : k ≤ 9223372036854775807) (w : World) :
    Calls Tryd.prog 20 #[.int .i64 k] w (RetWW (fmul (fint k) LL) (fmul (fint k) ll) w) := by
  have A1 := fun w1 => fr_int k h1 h2 w1
  change ∀ w1, Calls _ _ _ _ (RetW (fint k) w1) at A1
  have A2 := fun w1 => fp_mul (fint_lt k) (b := 4604418534311723008) (by omega) w1
  have A3 := fun w1 => fp_mul (fint_lt k) (b := 4461442080421002358) (by omega) w1
  rw [LL_lit, ll_lit]
  generalize fmul (fint k) 4604418534311723008 = u at *
  generalize fmul (fint k) 4461442080421002358 = v at *
  generalize fint k = x at *
  have H1 := Lib.hid A1
  have H2 := Lib.hid A2
  have H3 := Lib.hid A3
  clear A1 A2 A3
  go_enter Tryd.func20, Tryd.ntmps20
  go_wp2_with fail
  with_reducible refine (H1.out _).mono ?_
  rintro _ w1 ⟨rfl, b1⟩
  go_wp2_with fail
  refine (H2.out _).mono ?_
  rintro _ w2 ⟨rfl, b2⟩
  go_wp2_with fail
  refine (H3.out _).mono ?_
  rintro _ w3 ⟨rfl, b3⟩
  go_wp2_with fail
  go_ret2
  exact ⟨rfl, bbw b1 (bbw b2 b3)⟩

set_option maxHeartbeats 2000000 in
theorem kn_series {r : Nat} (hr : r < 18446744073709551616) (w : World) (hF : Fac w) :
    Calls Tryd.prog 22 #[.int .u64 r] w (RetW (expP r) w) := by
  rw [← expS_end]
  have hc : w.cell? ⟨0, 13, none⟩ = some (.int .i64 6227020800) := hF.2 13 (by omega)
  have A1 := kn_inv 6227020800 (by omega) (by omega) w
  rw [exp_tab0, ← expS_0 r] at A1
  have H1 := Lib.hid A1
  have HF := Lib.hid hF
  clear A1 hF
  go_enter Tryd.func22, Tryd.ntmps22
  go_wp2_with fail
  with_reducible refine H1.out.mono ?_
  rintro _ w1 ⟨rfl, b1⟩
  go_wp2_with fail
  clear H1 hc
  go_loopw [4, 11] (fun p iv wr => ∃ (i q : Nat), i ≤ 13 ∧ iv = .int .i64 i ∧ p = .int .u64 q ∧ Hid (q = expS r i) ∧ Below w.heap.size w wr) (fun _ iv _ => 13 - mes iv)
  case atStart => exact ⟨0, _, by omega, rfl, rfl, Lib.hid rfl, b1⟩
  case round =>
    clear b1
    obtain ⟨i, q, hi, rfl, rfl, HQ, hb⟩ := hrel
    by_cases h13 : i = 13
    · subst h13
      go_wp2_with fail
      go_ret
      exact ⟨ret1 (by rw [HQ.out]), hb⟩
    · have hi2 : i < 13 := by omega
      have hF := HF.out.below hb
      obtain ⟨t, ht⟩ : ∃ t : Nat, (12 : Int) - i = t := ⟨12 - i, by omega⟩
      have ht2 : t = 12 - i := by omega
      have hc := hF.2 t (by omega)
      have hv1 := fac_le t (by omega)
      have ht3 := exp_tab i hi2
      rw [← ht2] at ht3
      generalize facL.getD t 0 = v at *
      have hq : q < 18446744073709551616 := by rw [HQ.out]; exact expS_lt r (by omega)
      have A2 := fun w1 => kn_next hq hr v (by omega) (by omega) w1
      rw [ht3, HQ.out, ← expS_next r hi2, ← HQ.out] at A2
      have HN := Lib.hid A2
      clear A2 ht3 hF ht2
      go_wp2_with fail
      with_reducible refine (HN.out _).mono ?_
      rintro _ w2 ⟨rfl, b2⟩
      go_wp2_with fail
      go_roundw
      case rel => exact ⟨i + 1, _, by omega, vint (by omega), rfl, Lib.hid rfl, bbw hb b2⟩
      case measure => simp [mes, intOf]; omega

end Go.Proofs.YtmoahgiklgicgaaDoor

namespace Go.Proofs.YtmoahgiklgicgaaDoor
set_option maxRecDepth 100000
open Go.RowKit
set_option linter.unusedVariables false
set_option linter.unusedSimpArgs false

theorem expP_lt (r : Nat) : expP r < 18446744073709551616 := by rw [← expS_end]; exact expS_lt r (by omega)
set_option maxHeartbeats 4000000 in
theorem kn_exp {x : Nat} (hx : x < 18446744073709551616) (w : World) (hF : Fac w) :
    Calls Tryd.prog 5 #[.int .u64 x] w (RetW (fexp x) w) := by
  have K := Lib.hid (fb_kind hx w)
  by_cases h4 : kd x = 4
  · have e : fexp x = NAN := by unfold fexp; rw [if_pos h4]
    rw [e]
    rw [h4] at K
    have N := Lib.hid (fb_nan w)
    generalize NAN = v at *
    go_enter Tryd.func5, Tryd.ntmps5
    go_wp2_with fail
    refine K.out.mono ?_
    rintro _ w' ⟨rfl, rfl⟩
    go_wp2_with fail
    refine N.out.mono ?_
    rintro _ w' ⟨rfl, rfl⟩
    go_wp2_with fail
    go_ret
    exact ⟨rfl, Below.refl _ _⟩
  have g4 : ((kd x : Int) == 4) = false := by simp; omega
  have I1 := fr_int 710 (by omega) (by omega) w
  change Calls _ _ _ _ (RetW (fint 710) w) at I1
  have HI1 := Lib.hid I1
  have L1 := Lib.hid (fun w1 => fc_less (fint_lt 710) hx w1)
  by_cases h1 : fless (fint 710) x = true
  · have e : fexp x = INF := by unfold fexp; rw [if_neg h4, if_pos h1]
    rw [e]
    rw [h1] at L1
    have N := fun w1 => fb_inf false w1
    rw [sg_false] at N
    have HN := Lib.hid N
    generalize fint 710 = c at *
    generalize INF = v at *
    generalize kd x = k at *
    clear I1 N
    go_enter Tryd.func5, Tryd.ntmps5
    go_wp2_with fail
    refine K.out.mono ?_
    rintro _ w' ⟨rfl, rfl⟩
    go_wp2_with fail
    with_reducible refine HI1.out.mono ?_
    rintro _ w1 ⟨rfl, b1⟩
    go_wp2_with fail
    with_reducible refine (L1.out _).mono ?_
    rintro _ w' ⟨rfl, rfl⟩
    go_wp2_with fail
    with_reducible refine (HN.out _).mono ?_
    rintro _ w' ⟨rfl, rfl⟩
    go_wp2_with fail
    go_ret
    exact ⟨rfl, b1⟩
  have h1f : fless (fint 710) x = false := by simpa using h1
  rw [h1f] at L1
  have I2 := fun w1 => fr_int (-746) (by omega) (by omega) w1
  change ∀ w1, Calls _ _ _ _ (RetW (fint (-746)) w1) at I2
  have HI2 := Lib.hid I2
  have L2 := Lib.hid (fun w1 => fc_less hx (fint_lt (-746)) w1)
  by_cases h2 : fless x (fint (-746)) = true
  · have e : fexp x = 0 := by unfold fexp; rw [if_neg h4, if_neg h1, if_pos h2]
    rw [e]
    rw [h2] at L2
    clear h1 h1f h2 e
    generalize fint 710 = c at *
    generalize fint (-746) = d at *
    generalize kd x = k at *
    clear I1 I2
    go_enter Tryd.func5, Tryd.ntmps5
    go_wp2_with fail
    refine K.out.mono ?_
    rintro _ w' ⟨rfl, rfl⟩
    go_wp2_with fail
    with_reducible refine HI1.out.mono ?_
    rintro _ w1 ⟨rfl, b1⟩
    go_wp2_with fail
    with_reducible refine (L1.out _).mono ?_
    rintro _ w' ⟨rfl, rfl⟩
    go_wp2_with fail
    with_reducible refine (HI2.out _).mono ?_
    rintro _ w2 ⟨rfl, b2⟩
    go_wp2_with fail
    with_reducible refine (L2.out _).mono ?_
    rintro _ w' ⟨rfl, rfl⟩
    go_wp2_with fail
    go_ret
    exact ⟨rfl, bbw b1 b2⟩
  have h2f : fless x (fint (-746)) = false := by simpa using h2
  rw [h2f] at L2
  have e : fexp x = fscale (expP (expR x)) (fnv (fmul x PP)) := by unfold fexp; rw [if_neg h4, if_neg h1, if_neg h2]
  obtain ⟨_, n1, n2⟩ := expR_half hx (exp_range hx h4 h1 h2)
  have ho := nok_of n2 n1
  have hv : nrv (fmul x PP) = fnv (fmul x PP) := by unfold nrv; rw [if_pos ho]
  have hR : expR x = fsub (fsub x (fmul (fint (fnv (fmul x PP))) LL)) (fmul (fint (fnv (fmul x PP))) ll) := rfl
  have M1 : ∀ w1, Calls Tryd.prog 19 #[.int .u64 x, .int .u64 4609176140021203710] w1 (RetW (fmul x PP) w1) := by
    intro w1
    rw [PP_lit]
    exact fp_mul hx (b := 4609176140021203710) (by omega) w1
  have NR := fun w1 => fc_near (fmul_lt x PP) w1
  unfold RetN at NR
  rw [hv, ho] at NR
  have T := fun w1 => kn_ln2 (fnv (fmul x PP)) (by omega) (by omega) w1
  have S1 := fun w1 => fs_sub hx (fmul_lt (fint (fnv (fmul x PP))) LL) w1
  have S2 := fun w1 => fs_sub (fsub_lt (a := x) (b := fmul (fint (fnv (fmul x PP))) LL) hx) (fmul_lt (fint (fnv (fmul x PP))) ll) w1
  rw [← hR] at S2
  have hRl : expR x < 18446744073709551616 := fsub_lt (fsub_lt hx)
  have SE := fun w1 hF => kn_series hRl w1 hF
  have SC := fun w1 => fc_scale (expP_lt (expR x)) (fnv (fmul x PP)) w1
  rw [← e] at SC
  clear e hR hRl h1 h1f h2 h2f ho hv n2 I1 I2 h4
  generalize fexp x = E at *
  generalize expP (expR x) = EP at *
  generalize expR x = ER at *
  generalize fsub x (fmul (fint (fnv (fmul x PP))) LL) = D1 at *
  generalize fmul (fint (fnv (fmul x PP))) LL = U at *
  generalize fmul (fint (fnv (fmul x PP))) ll = V at *
  generalize fnv (fmul x PP) = k at *
  generalize fmul x PP = m at *
  generalize fint 710 = c at *
  generalize fint (-746) = d at *
  generalize kd x = kx at *
  have HM := Lib.hid M1
  have HNR := Lib.hid NR
  have HT := Lib.hid T
  have HS1 := Lib.hid S1
  have HS2 := Lib.hid S2
  have HSE := Lib.hid SE
  have HSC := Lib.hid SC
  have HFac := Lib.hid hF
  clear M1 NR T S1 S2 SE SC hF
  go_enter Tryd.func5, Tryd.ntmps5
  go_wp2_with fail
  refine K.out.mono ?_
  rintro _ w' ⟨rfl, rfl⟩
  go_wp2_with fail
  with_reducible refine HI1.out.mono ?_
  rintro _ w1 ⟨rfl, b1⟩
  go_wp2_with fail
  with_reducible refine (L1.out _).mono ?_
  rintro _ w' ⟨rfl, rfl⟩
  go_wp2_with fail
  with_reducible refine (HI2.out _).mono ?_
  rintro _ w2 ⟨rfl, b2⟩
  go_wp2_with fail
  with_reducible refine (L2.out _).mono ?_
  rintro _ w' ⟨rfl, rfl⟩
  go_wp2_with fail
  with_reducible refine (HM.out _).mono ?_
  rintro _ w3 ⟨rfl, b3⟩
  go_wp2_with fail
  with_reducible refine (HNR.out _).mono ?_
  rintro _ w4 ⟨rfl, b4⟩
  go_wp2_with fail
  with_reducible refine (HT.out _).mono ?_
  rintro _ w5 ⟨rfl, b5⟩
  go_wp2_with fail
  with_reducible refine (HS1.out _).mono ?_
  rintro _ w6 ⟨rfl, b6⟩
  go_wp2_with fail
  with_reducible refine (HS2.out _).mono ?_
  rintro _ w7 ⟨rfl, b7⟩
  have y7 := bbw b1 (bbw b2 (bbw b3 (bbw b4 (bbw b5 (bbw b6 b7)))))
  go_wp2_with fail
  with_reducible refine (HSE.out _ (HFac.out.below y7)).mono ?_
  rintro _ w8 ⟨rfl, b8⟩
  go_wp2_with fail
  with_reducible refine (HSC.out _).mono ?_
  rintro _ w9 ⟨rfl, b9⟩
  go_wp2_with fail
  go_ret
  exact ⟨rfl, bbw y7 (bbw b8 b9)⟩

set_option maxHeartbeats 4000000 in
theorem kn_split {x : Nat} (hx : x < 18446744073709551616) (hk : kd x = 1 ∨ kd x = 2) (hn : ng x = false) (w : World) :
    Calls Tryd.prog 35 #[.int .u64 x] w fun e w' => e = .returned (.tuple #[.int .u64 (lf x), .int .i64 (lk x)]) ∧ Below w.heap.size w w' := by
  have hf : fld x < 2047 := (kd_cases x).2.1 (by omega)
  have hp := sig_pos hk
  have hs := sig_lt x
  have hsb := sig_blen x
  obtain ⟨_, c2, c3, _, _⟩ := lk_cases hx hk hn
  obtain ⟨z1, z2, z3, z4⟩ := lf0_word hp
  have P := Lib.hid (fb_partsY hx hf w)
  have L0 := limb_len (sig x : Int) (by unfold U; omega) w
  rw [Int.toNat_natCast] at L0
  have HL := Lib.hid L0
  have hlk : xpo x + (blen (sig x) : Int) - 1 = lk0 x := rfl
  have hsc : fscale x (-(lk0 x)) = lf0 x := by
    unfold fscale
    rw [if_pos hf, hn, sg_false, ← z1]
    congr 1
    rw [← hlk]
    omega
  have S1 := fun w1 => fc_scale hx (-(lk0 x)) w1
  rw [hsc] at S1
  have LE : ∀ w1, Calls Tryd.prog 15 #[.int .u64 4609047870845172685, .int .u64 (lf0 x)] w1 fun e w' => e = .returned (.bool (decide (RR < lf0 x))) ∧ w1 = w' := by
    intro w1
    rw [← z3, RR_lit]
    exact fc_less (a := 4609047870845172685) (by omega) z4 w1
  have S2 := fun w1 => fc_scale z4 (-1) w1
  rw [z2] at S2
  obtain ⟨x1, x2⟩ := xpo_range hf
  have hF : lf x = if RR < lf0 x then lf0 x - 4503599627370496 else lf0 x := rfl
  have hK : lk x = if RR < lf0 x then lk0 x + 1 else lk0 x := rfl
  clear hsc z1 z2 z3 L0
  by_cases hr : RR < lf0 x
  · rw [if_pos hr] at hF hK
    rw [decide_eq_true hr] at LE
    rw [hF, hK]
    clear hF hK
    generalize lf0 x - 4503599627370496 = G at *
    generalize lf0 x = F at *
    generalize lk0 x = k at *
    generalize blen (sig x) = n at *
    generalize sig x = m at *
    generalize xpo x = e at *
    generalize ng x = s at *
    have H1 := Lib.hid S1
    have H2 := Lib.hid S2
    have HE := Lib.hid LE
    clear S1 S2 LE hr
    go_enter Tryd.func35, Tryd.ntmps35
    go_wp2_with fail
    refine P.out.mono ?_
    rintro _ w' ⟨rfl, rfl⟩
    go_wp2_with fail
    refine HL.out.mono ?_
    rintro _ w' ⟨rfl, rfl⟩
    go_wp2_with fail
    with_reducible refine (H1.out _).mono ?_
    rintro _ w1 ⟨rfl, b1⟩
    go_wp2_with fail
    with_reducible refine (HE.out _).mono ?_
    rintro _ w' ⟨rfl, rfl⟩
    go_wp2_with fail
    with_reducible refine (H2.out _).mono ?_
    rintro _ w2 ⟨rfl, b2⟩
    go_wp2_with fail
    go_ret2
    exact ⟨rfl, bbw b1 b2⟩
  · rw [if_neg hr] at hF hK
    rw [decide_eq_false hr] at LE
    rw [hF, hK]
    clear hF hK S2
    generalize lf0 x = F at *
    generalize lk0 x = k at *
    generalize blen (sig x) = n at *
    generalize sig x = m at *
    generalize xpo x = e at *
    generalize ng x = s at *
    have H1 := Lib.hid S1
    have HE := Lib.hid LE
    clear S1 LE hr
    go_enter Tryd.func35, Tryd.ntmps35
    go_wp2_with fail
    refine P.out.mono ?_
    rintro _ w' ⟨rfl, rfl⟩
    go_wp2_with fail
    refine HL.out.mono ?_
    rintro _ w' ⟨rfl, rfl⟩
    go_wp2_with fail
    with_reducible refine (H1.out _).mono ?_
    rintro _ w1 ⟨rfl, b1⟩
    go_wp2_with fail
    with_reducible refine (HE.out _).mono ?_
    rintro _ w' ⟨rfl, rfl⟩
    go_wp2_with fail
    go_ret2
    exact ⟨rfl, b1⟩

end Go.Proofs.YtmoahgiklgicgaaDoor

namespace Go.Proofs.YtmoahgiklgicgaaDoor
set_option maxRecDepth 100000
open Go.RowKit
set_option linter.unusedVariables false
set_option linter.unusedSimpArgs false

set_option maxHeartbeats 2000000 in
theorem rf_less {a b : Nat} (ha : a < 18446744073709551616) (hb : b < 18446744073709551616) (w : World) :
    Calls Tryd.prog 12 #[.int .u64 a, .int .u64 b] w fun e w' => e = .returned (.bool (fless a b)) ∧ w = w' := by
  have K1 := Lib.hid (rf_kind ha w)
  have K2 := Lib.hid (rf_kind hb w)
  have N1 := Lib.hid (rf_neg ha w)
  have N2 := Lib.hid (rf_neg hb w)
  have hF : fless a b = if kd a = 4 ∨ kd b = 4 then false else if ng a = true ∧ ng b = true then decide (b < a) else if ng a = true then (decide (a ≠ 9223372036854775808) || decide (b ≠ 0)) else (!(ng b) && decide (a < b)) := rfl
  generalize fless a b = r at *
  generalize kd a = k1 at *
  generalize kd b = k2 at *
  generalize ng a = s at *
  generalize ng b = t at *
  by_cases h1 : k1 = 4
  · subst h1
    rw [if_pos (.inl rfl)] at hF
    have HF := Lib.hid hF
    clear hF
    go_enter Tryd.func12, Tryd.ntmps12
    go_wp2_with fail
    refine K1.out.mono ?_
    rintro _ w' ⟨rfl, rfl⟩
    go_wp2_with fail
    go_ret
    exact ⟨retB HF.out.symm, rfl⟩
  have g1 : ((k1 : Int) == 4) = false := by simp; omega
  by_cases h2 : k2 = 4
  · subst h2
    rw [if_pos (.inr rfl)] at hF
    have HF := Lib.hid hF
    clear hF
    go_enter Tryd.func12, Tryd.ntmps12
    go_wp2_with fail
    refine K1.out.mono ?_
    rintro _ w' ⟨rfl, rfl⟩
    go_wp2_with fail
    refine K2.out.mono ?_
    rintro _ w' ⟨rfl, rfl⟩
    go_wp2_with fail
    go_ret
    exact ⟨retB HF.out.symm, rfl⟩
  have g2 : ((k2 : Int) == 4) = false := by simp; omega
  rw [if_neg (by omega)] at hF
  have HF := Lib.hid hF
  clear hF
  go_enter Tryd.func12, Tryd.ntmps12
  go_wp2_with fail
  refine K1.out.mono ?_
  rintro _ w' ⟨rfl, rfl⟩
  go_wp2_with fail
  refine K2.out.mono ?_
  rintro _ w' ⟨rfl, rfl⟩
  go_wp2_with fail
  refine N1.out.mono ?_
  rintro _ w' ⟨rfl, rfl⟩
  go_wp2_with fail
  refine N2.out.mono ?_
  rintro _ w' ⟨rfl, rfl⟩
  cases s <;> cases t
  · go_wp2_with fail
    go_ret
    exact ⟨retB (by rw [HF.out]; simp), rfl⟩
  · go_wp2_with fail
    go_ret
    exact ⟨retB (by rw [HF.out]; simp), rfl⟩
  · by_cases h3 : a = 9223372036854775808
    · subst h3
      go_wp2_with fail
      go_ret
      exact ⟨retB (by rw [HF.out, Bool.eq_iff_iff]; simp), rfl⟩
    · have g3 : ((a : Int) != 9223372036854775808) = true := by simp; omega
      go_wp2_with fail
      go_ret
      exact ⟨retB (by rw [HF.out]; simp [h3]), rfl⟩
  · go_wp2_with fail
    go_ret
    exact ⟨retB (by rw [HF.out]; simp), rfl⟩

theorem ord_vals (b : Nat) : ord13 b = 0 ∨ ord13 b = 2 ∨ ord13 b = -2 := by
  unfold ord13
  split
  · split <;> simp
  · simp

set_option maxHeartbeats 4000000 in
theorem rf_scale {b : Nat} (hb : b < 18446744073709551616) (k : Int) (w : World) :
    Calls Tryd.prog 33 #[.int .u64 b, .int .i64 k] w (RetW (fscale b k) w) := by
  unfold fscale
  have F := Lib.hid (rf_finite hb w)
  by_cases hf : fld b < 2047
  · have hfin : fin b = true := decide_eq_true hf
    rw [hfin] at F
    rw [if_pos hf, ← scale_clamp hf k (L := 9000) (by omega)]
    obtain ⟨x1, x2⟩ := xpo_range hf
    have hs := sig_lt b
    have P := Lib.hid (rf_parts hb w)
    have N := Lib.hid (rf_neg hb w)
    obtain ⟨c, hc⟩ : ∃ c, min (max k (-9000)) 9000 = c := ⟨_, rfl⟩
    rw [hc]
    have hc1 : -9000 ≤ c ∧ c ≤ 9000 := by omega
    have W0 := rf_of (ng b) (sl_lit w (sig b : Int) (by unfold U; omega)) (by omega) (e := xpo b + c) (by omega) (by omega)
    rw [val_one, Int.toNat_natCast] at W0
    have W := Lib.hid W0
    clear W0
    generalize magR (sig b) 1 (xpo b + c) = M at *
    generalize sig b = m at *
    generalize xpo b = x at *
    generalize ng b = s at *
    go_enter Tryd.func33, Tryd.ntmps33
    go_wp2_with fail
    refine F.out.mono ?_
    rintro _ w' ⟨rfl, rfl⟩
    go_wp2_with fail
    refine P.out.mono ?_
    rintro _ w' ⟨rfl, rfl⟩
    go_wp2_with fail
    refine N.out.mono ?_
    rintro _ w' ⟨rfl, rfl⟩
    by_cases h1 : k < -9000
    · obtain rfl : c = -9000 := by omega
      go_wp2_with fail
      with_reducible refine W.out.mono ?_
      rintro _ w' ⟨rfl, b1⟩
      go_wp2_with fail
      go_ret
      exact ⟨rfl, bb (below_alloc _ _) b1⟩
    · by_cases h2 : 9000 < k
      · obtain rfl : c = 9000 := by omega
        have h3 : decide (9000 < k) = true := decide_eq_true h2
        go_wp2_with fail
        with_reducible refine W.out.mono ?_
        rintro _ w' ⟨rfl, b1⟩
        go_wp2_with fail
        go_ret
        exact ⟨rfl, bb (below_alloc _ _) b1⟩
      · obtain rfl : c = k := by omega
        go_wp2_with fail
        with_reducible refine W.out.mono ?_
        rintro _ w' ⟨rfl, b1⟩
        go_wp2_with fail
        go_ret
        exact ⟨rfl, bb (below_alloc _ _) b1⟩
  · have hfin : fin b = false := decide_eq_false hf
    rw [hfin] at F
    rw [if_neg hf]
    have C := Lib.hid (rf_clean hb w)
    generalize cln b = r at *
    go_enter Tryd.func33, Tryd.ntmps33
    go_wp2_with fail
    refine F.out.mono ?_
    rintro _ w' ⟨rfl, rfl⟩
    go_wp2_with fail
    refine C.out.mono ?_
    rintro _ w' ⟨rfl, rfl⟩
    go_wp2_with fail
    go_ret
    exact ⟨rfl, Below.refl _ _⟩

end Go.Proofs.YtmoahgiklgicgaaDoor
