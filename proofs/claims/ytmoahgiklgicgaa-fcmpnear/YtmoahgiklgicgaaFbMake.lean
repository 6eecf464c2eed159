/-
  What fbits.Make returns for any sign, word and int. No condition but that they fit their kinds.
-/
import Derived.Test.YtmoahgiklgicgaaFbRun
namespace Go.Proofs.Ytmoahgiklgicgaa
set_option maxRecDepth 100000
open Go.RowKit
set_option linter.unusedVariables false
set_option linter.unusedSimpArgs false

/-- the double of a significand and an exponent, or 0 -/
def mkW (s : Bool) (m : Nat) (e : Int) : Nat := if ExR m 1 e then sg s (magR m 1 e) else 0
theorem exR_zero (e : Int) : ExR 0 1 e := by
  unfold ExR Ex ulp
  rw [Nat.zero_mul, Nat.zero_div, Nat.zero_mod, blen_zero]
  exact ⟨rfl, rfl, by omega⟩
theorem mkW_yes {s : Bool} {m : Nat} {e : Int} (h : ExR m 1 e) : mkW s m e = sg s (magR m 1 e) := if_pos h
theorem mkW_no {s : Bool} {m : Nat} {e : Int} (h : ¬ ExR m 1 e) : mkW s m e = 0 := if_neg h
def RetMk (s : Bool) (m : Nat) (e : Int) (w : World) (x : Ending) (w' : World) : Prop := x = .returned (.tuple #[.int .u64 (mkW s m e), .bool (decide (ExR m 1 e))]) ∧ w = w'
theorem retMk_no {s : Bool} {m : Nat} {e : Int} {w : World} (h : ¬ ExR m 1 e) : RetMk s m e w (.returned (.tuple #[.int .u64 0, .bool false])) w := by
  unfold RetMk
  rw [mkW_no h, decide_eq_false h]
  exact ⟨rfl, rfl⟩
theorem retMk_yes {s : Bool} {m b : Nat} {e : Int} {w : World} {v : Int} (h : ExR m 1 e) (hb : magR m 1 e = b) (hv : v = sg s b) : RetMk s m e w (.returned (.tuple #[.int .u64 v, .bool true])) w := by
  unfold RetMk
  rw [mkW_yes h, decide_eq_true h, hb, hv]
  exact ⟨rfl, rfl⟩
theorem low_bits {m : Nat} (h0 : 0 < m) (hm : m < 18446744073709551616) : bits .and .u64 (m : Int) (IntKind.u64.wrap (-(m : Int))) = ((2 ^ tz m : Nat) : Int) := by
  rw [show IntKind.u64.wrap (-(m : Int)) = (18446744073709551616 : Int) - m by rw [wrapU]; omega]
  have h1 := u64_and_nat m (18446744073709551616 - m) hm (by omega)
  rw [show ((18446744073709551616 - m : Nat) : Int) = (18446744073709551616 : Int) - m by omega] at h1
  rw [h1]
  have h2 := low_bit h0 (by omega)
  rw [show (2 : Nat) ^ 64 = 18446744073709551616 by decide] at h2
  rw [h2]
theorem blen_pow (t : Nat) : blen (2 ^ t) = t + 1 := blen_unique (by rw [Nat.pow_succ]; have := Nat.two_pow_pos t; omega) (Nat.le_refl _)
theorem tz_lt64 {m : Nat} (h0 : 0 < m) (hm : m < 18446744073709551616) : tz m < 64 := by
  obtain ⟨_, h2⟩ := tz_part h0
  have h3 := bit_lt_blen h2
  have := blen_le (n := m) (k := 64) (by omega)
  omega

theorem make_val1 {m o K : Nat} {e : Int} (g1 : magR m 1 e = 0 * B52 + o * 2 ^ K) (g3 : o * 2 ^ K < 2 * B52) : IntKind.u64.wrap (IntKind.u64.wrap ((o : Int) * 2 ^ K)) = ((magR m 1 e : Nat) : Int) := by
  have hc : (o : Int) * 2 ^ K = ((o * 2 ^ K : Nat) : Int) := by push_cast; rfl
  have hB := B52_eq
  rw [g1, hc, wrapU, wrapU, Nat.zero_mul, Nat.zero_add]
  generalize o * 2 ^ K = x at *
  omega
theorem make_val2 {m o K : Nat} {e L : Int} (hL : 0 ≤ L) (hL2 : L ≤ 2045) (g1 : magR m 1 e = L.toNat * B52 + o * 2 ^ K) (g3 : o * 2 ^ K < 2 * B52) : IntKind.u64.wrap (L * 4503599627370496 + IntKind.u64.wrap ((o : Int) * 2 ^ K)) = ((magR m 1 e : Nat) : Int) := by
  have hc : (o : Int) * 2 ^ K = ((o * 2 ^ K : Nat) : Int) := by push_cast; rfl
  obtain ⟨l, rfl⟩ := Int.eq_ofNat_of_zero_le hL
  rw [g1, hc, wrapU, wrapU, Int.toNat_natCast]
  simp only [B52_eq] at g3 ⊢
  generalize o * 2 ^ K = x at *
  omega
theorem magR_le (p q : Nat) (e : Int) : magR p q e ≤ 9218868437227405312 := by have := mag_le (p * 2 ^ up e) (q * 2 ^ dn e); rw [INF_lit] at this; exact this

set_option maxHeartbeats 2000000 in
theorem fb_make (s : Bool) {m : Nat} (hm : m < 18446744073709551616) {e : Int} (he : -9223372036854775808 ≤ e) (he2 : e ≤ 9223372036854775807) (w : World) :
    Calls Try.prog 44 #[.bool s, .int .u64 m, .int .i64 e] w (RetMk s m e w) := by
  rcases Nat.eq_zero_or_pos m with rfl | h0
  · have S := Lib.hid (fb_signed s (b := 0) (by omega) w)
    go_enter Try.func44, Try.ntmps44
    go_wp2_with fail
    refine S.out.mono ?_
    rintro _ w' ⟨rfl, rfl⟩
    go_wp2_with fail
    go_ret2
    exact retMk_yes (exR_zero e) (magR_zero 1 e) rfl
  · have hz : ((m : Int) == 0) = false := by simp; omega
    obtain ⟨hp, ho⟩ := tz_part h0
    have ht := tz_lt64 h0 hm
    have hl := low_bits h0 hm
    have hbl := blen_pow (tz m)
    have hole : m / 2 ^ tz m ≤ m := Nat.div_le_self _ _
    have hdiv : (m : Int) / 2 ^ tz m = ((m / 2 ^ tz m : Nat) : Int) := by rw [Int.natCast_ediv]; congr 1
    have hP : 2 ^ tz m < 18446744073709551616 := by
      have : 2 ^ tz m < 2 ^ 64 := Nat.pow_lt_pow_right (by omega) ht
      omega
    generalize m / 2 ^ tz m = o at *
    generalize tz m = t at *
    have hno1 : e + t < -1074 → ¬ ExR m 1 e := by rw [← hp]; exact make_no1 ho
    have hno2 : 53 < blen o → ¬ ExR m 1 e := by rw [← hp]; exact make_no2 ho
    have hno3 : 1024 < (blen o : Int) + (e + t) → ¬ ExR m 1 e := by rw [← hp]; exact make_no3 ho
    have hyes : ∀ low : Int, blen o ≤ 53 → -1074 ≤ e + t → (blen o : Int) + (e + t) ≤ 1024 → low = max ((blen o : Int) + (e + t) - 53) (-1074) → magR m 1 e = (low + 1074).toNat * B52 + o * 2 ^ (e + t - low).toNat ∧ ExR m 1 e ∧ o * 2 ^ (e + t - low).toNat < 2 * B52 := by
      intro low a1 a2 a3 a4
      rw [← hp]; exact make_good ho rfl a1 a2 a3 a4
    have hbp := blen_pos (n := o) (by omega)
    have hb64 := blen_le (n := o) (k := 64) (by omega)
    have L2 := Lib.hid (limb_len (o : Int) (by unfold U; omega) w)
    rw [Int.toNat_natCast] at L2
    generalize blen o = n at *
    by_cases hbig : 1024 ≤ e
    · have H := Lib.hid (hno3 (by omega))
      clear hno1 hno2 hno3 hyes
      go_enter Try.func44, Try.ntmps44
      go_wp2_with fail
      go_ret2
      exact retMk_no H.out
    · generalize 2 ^ t = P at *
      have L1 := limb_len (P : Int) (by unfold U; omega) w
      rw [Int.toNat_natCast, hbl] at L1
      have HL1 := Lib.hid L1
      have H1 := Lib.hid hno1
      have H2 := Lib.hid hno2
      have H3 := Lib.hid hno3
      have HY := Lib.hid hyes
      clear L1 hno1 hno2 hno3 hyes hbl
      have ht0 : t ≤ 63 := by omega
      by_cases c1 : 53 < n
      · have H := Lib.hid (H2.out c1)
        clear H1 H2 H3 HY
        go_enter Try.func44, Try.ntmps44
        go_wp2_with fail
        with_reducible refine HL1.out.mono ?_
        rintro _ w' ⟨rfl, rfl⟩
        go_wp2_with fail
        with_reducible refine L2.out.mono ?_
        rintro _ w' ⟨rfl, rfl⟩
        go_wp2_with fail
        go_ret2
        exact retMk_no H.out
      · have d1 : decide (53 < (n : Int)) = false := decide_eq_false (by omega)
        by_cases c2 : e + t < -1074
        · have H := Lib.hid (H1.out c2)
          clear H1 H2 H3 HY
          have d2 : decide (e + t < -1074) = true := decide_eq_true c2
          go_enter Try.func44, Try.ntmps44
          go_wp2_with fail
          with_reducible refine HL1.out.mono ?_
          rintro _ w' ⟨rfl, rfl⟩
          go_wp2_with fail
          with_reducible refine L2.out.mono ?_
          rintro _ w' ⟨rfl, rfl⟩
          go_wp2_with fail
          go_ret2
          exact retMk_no H.out
        · have d2 : decide (e + t < -1074) = false := decide_eq_false c2
          by_cases c3 : 1024 < (n : Int) + (e + t)
          · have H := Lib.hid (H3.out c3)
            clear H1 H2 H3 HY
            have d3 : decide (1024 < (n : Int) + (e + t)) = true := decide_eq_true c3
            go_enter Try.func44, Try.ntmps44
            go_wp2_with fail
            with_reducible refine HL1.out.mono ?_
            rintro _ w' ⟨rfl, rfl⟩
            go_wp2_with fail
            with_reducible refine L2.out.mono ?_
            rintro _ w' ⟨rfl, rfl⟩
            go_wp2_with fail
            go_ret2
            exact retMk_no H.out
          · have d3 : decide (1024 < (n : Int) + (e + t)) = false := decide_eq_false c3
            clear H1 H2 H3
            go_enter Try.func44, Try.ntmps44
            go_wp2_with fail
            with_reducible refine HL1.out.mono ?_
            rintro _ w' ⟨rfl, rfl⟩
            go_wp2_with fail
            with_reducible refine L2.out.mono ?_
            rintro _ w' ⟨rfl, rfl⟩
            go_wp2_with fail
            · obtain ⟨g1, g2, g3⟩ := HY.out (-1074) (by omega) c2 c3 (by omega)
              rw [show e + (t : Int) - -1074 = e + t + 1074 by omega] at g1 g3
              have ev := make_val1 (K := (e + t + 1074).toNat) g1 g3
              have hle := magR_le m 1 e
              rw [ev]
              have S := Lib.hid (fb_signed s (b := magR m 1 e) (by omega) w)
              have G2 := Lib.hid g2
              clear g1 g2 g3 ev HY
              generalize hb : magR m 1 e = b at *
              with_reducible refine S.out.mono ?_
              rintro _ w' ⟨rfl, rfl⟩
              go_wp2_with fail
              go_ret2
              exact retMk_yes G2.out hb rfl
            · obtain ⟨g1, g2, g3⟩ := HY.out ((n : Int) + (e + t) - 52 - 1) (by omega) c2 c3 (by omega)
              have ev := make_val2 (L := (n : Int) + (e + t) - 52 - 1 + 1074) (by omega) (by omega) g1 g3
              have hle := magR_le m 1 e
              rw [ev]
              have S := Lib.hid (fb_signed s (b := magR m 1 e) (by omega) w)
              have G2 := Lib.hid g2
              clear g1 g2 g3 ev HY
              generalize hb : magR m 1 e = b at *
              with_reducible refine S.out.mono ?_
              rintro _ w' ⟨rfl, rfl⟩
              go_wp2_with fail
              go_ret2
              exact retMk_yes G2.out hb rfl

end Go.Proofs.Ytmoahgiklgicgaa
