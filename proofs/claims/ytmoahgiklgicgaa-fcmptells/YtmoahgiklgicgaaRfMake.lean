/-
  What the document's Make of layer 9 returns for any sign, word and int. No condition but that they fit their kinds.
-/
import Derived.Test.YtmoahgiklgicgaaFbMake
namespace Go.Proofs.Ytmoahgiklgicgaa
set_option maxRecDepth 100000
open Go.RowKit
set_option linter.unusedVariables false
set_option linter.unusedSimpArgs false

/-- factors 2 are moved into the exponent -/
def Half1 (m : Nat) (e : Int) (m' : Nat) (e' : Int) : Prop := ∃ j : Nat, m = m' * 2 ^ j ∧ e' = e + j ∧ 0 < m' ∧ j ≤ 64 ∧ m' ≤ m
theorem half1_0 {m : Nat} {e : Int} (h0 : 0 < m) : Half1 m e m e := ⟨0, by simp, by simp, h0, by omega, Nat.le_refl _⟩
theorem half1_step {m m' : Nat} {e e' : Int} (hm : m < 18446744073709551616) (h : Half1 m e m' e') (hev : m' % 2 = 0) : Half1 m e (m' / 2) (e' + 1) := by
  obtain ⟨j, h1, h2, h3, h4, h5⟩ := h
  have e1 : m = m' / 2 * 2 ^ (j + 1) := by
    rw [Nat.pow_succ, Nat.mul_comm (2 ^ j), ← Nat.mul_assoc, show m' / 2 * 2 = m' by omega]; exact h1
  have hp : 0 < m' / 2 := by omega
  refine ⟨j + 1, e1, by omega, hp, ?_, by omega⟩
  rcases Nat.lt_or_ge j 64 with hl | hl
  · omega
  · exfalso
    have : 2 ^ 64 ≤ 2 ^ j := Nat.pow_le_pow_right (by omega) hl
    have h6 : 1 * 2 ^ j ≤ m' * 2 ^ j := Nat.mul_le_mul_right _ h3
    rw [Nat.one_mul, ← h1] at h6
    omega
/-- .. and back, until the significand has 53 bits or the exponent is the least -/
def Up2 (o : Nat) (e1 : Int) (m2 : Nat) (e2 : Int) : Prop := ∃ k : Nat, m2 = o * 2 ^ k ∧ e2 = e1 - k ∧ m2 < 9007199254740992 ∧ -1074 ≤ e2
theorem up2_0 {o : Nat} {e1 : Int} (h : o < 9007199254740992) (h2 : -1074 ≤ e1) : Up2 o e1 o e1 := ⟨0, by simp, by simp, h, h2⟩
theorem up2_step {o m2 : Nat} {e1 e2 : Int} (h : Up2 o e1 m2 e2) (hl : m2 < 4503599627370496) (he : -1074 < e2) : Up2 o e1 (m2 * 2) (e2 - 1) := by
  obtain ⟨k, h1, h2, h3, h4⟩ := h
  exact ⟨k + 1, by rw [h1, Nat.pow_succ, Nat.mul_assoc], by omega, by omega, by omega⟩
theorem up2_end {o t m2 : Nat} {e e2 : Int} (h : Up2 o (e + t) m2 e2) (he : ¬ (m2 < 4503599627370496 ∧ -1074 < e2)) :
    magR (o * 2 ^ t) 1 e = min ((e2 + 1074).toNat * B52 + m2) INF ∧ (ExR (o * 2 ^ t) 1 e ↔ (e2 + 1074).toNat ≤ 2045) := by
  obtain ⟨k, h1, h2, h3, h4⟩ := h
  refine make_pair (by omega) ?_ (by rw [B52_eq]; omega) ?_
  · rw [h1, Nat.mul_assoc, ← Nat.pow_add]; congr 2; omega
  · rw [B52_eq]; omega

theorem up2_val {x m2 l : Nat} {e2 : Int} (h : x = min ((e2 + 1074).toNat * B52 + m2) INF) (hl : e2 + 1074 = l) (hl2 : l ≤ 2045) (hm : m2 < 9007199254740992) : (e2 + 1075) * 4503599627370496 + (m2 : Int) - 4503599627370496 = (x : Int) := by
  have h1 : (e2 + 1074).toNat = l := by omega
  rw [h1, Nat.min_eq_left] at h
  · have hB : ((B52 : Nat) : Int) = 4503599627370496 := by rw [B52_eq]; rfl
    rw [h, Int.natCast_add, Int.natCast_mul, hB]
    omega
  · have : l * B52 ≤ 2045 * B52 := Nat.mul_le_mul_right _ hl2
    have h2 := INF_eq
    have h3 := B52_eq
    omega
set_option maxHeartbeats 2000000 in
theorem rf_make (s : Bool) {m : Nat} (hm : m < 18446744073709551616) {e : Int} (he : -9223372036854775808 ≤ e) (he2 : e ≤ 9223372036854775807) (w : World) :
    Calls Try.prog 58 #[.bool s, .int .u64 m, .int .i64 e] w (RetMk s m e w) := by
  rcases Nat.eq_zero_or_pos m with rfl | h0
  · have S := Lib.hid (rf_signed s (b := 0) (by omega) w)
    go_enter Try.func58, Try.ntmps58
    go_wp2_with fail
    refine S.out.mono ?_
    rintro _ w' ⟨rfl, rfl⟩
    go_wp2_with fail
    go_ret2
    exact retMk_yes (exR_zero e) (magR_zero 1 e) rfl
  have hz : ((m : Int) == 0) = false := by simp; omega
  obtain ⟨hp, ho⟩ := tz_part h0
  have ht := tz_lt64 h0 hm
  generalize m / 2 ^ tz m = o0 at *
  generalize tz m = t0 at *
  have hbp := blen_pos (n := o0) (by omega)
  by_cases c1 : e < -1200
  · have H := Lib.hid (show ¬ ExR m 1 e by rw [← hp]; exact make_no1 ho (by omega))
    have d1 : decide (e < -1200) = true := decide_eq_true c1
    go_enter Try.func58, Try.ntmps58
    go_wp2_with fail
    go_ret2
    exact retMk_no H.out
  have d1 : decide (e < -1200) = false := decide_eq_false c1
  by_cases c2 : 1200 < e
  · have H := Lib.hid (show ¬ ExR m 1 e by rw [← hp]; exact make_no3 ho (by omega))
    have d2 : decide (1200 < e) = true := decide_eq_true c2
    go_enter Try.func58, Try.ntmps58
    go_wp2_with fail
    go_ret2
    exact retMk_no H.out
  have d2 : decide (1200 < e) = false := decide_eq_false c2
  clear hp ho ht hbp
  go_enter Try.func58, Try.ntmps58
  go_wp2_with fail
  clear d1 d2 hz
  go_loop [1, 2] (fun x y => ∃ (m' : Nat) (e' : Int), x = .int .u64 m' ∧ y = .int .i64 e' ∧ Half1 m e m' e') (fun x _ => mes x)
  case atStart => exact ⟨m, e, rfl, rfl, half1_0 h0⟩
  case round =>
    obtain ⟨m', e', rfl, rfl, hh⟩ := hrel
    obtain ⟨b1, b2, b3, b4⟩ : 0 < m' ∧ m' ≤ m ∧ e ≤ e' ∧ e' ≤ e + 64 := by obtain ⟨j, _, _, _, _, _⟩ := hh; omega
    by_cases hev : m' % 2 = 0
    · have hn := Lib.hid (half1_step hm hh hev)
      have hev2 : (((m' : Int) % 2) == 0) = true := by simp; omega
      clear hh
      go_wp2_with fail
      go_round
      case rel => exact ⟨m' / 2, e' + 1, by go_num, by go_num, hn.out⟩
      case measure => exact mes_lt (by omega) (by omega)
    · have hev2 : (((m' : Int) % 2) == 0) = false := by simp; omega
      obtain ⟨t, h1, h2, h3, h4, h5⟩ := hh
      have ho : m' % 2 = 1 := by omega
      by_cases c3 : 9007199254740992 ≤ m'
      · have H := Lib.hid (show ¬ ExR m 1 e by rw [h1]; exact make_no2 ho (blen_ge (k := 53) (by omega)))
        have d3 : decide (9007199254740992 ≤ (m' : Int)) = true := decide_eq_true (by omega)
        clear h1
        go_wp2_with fail
        go_ret2
        exact retMk_no H.out
      have d3 : decide (9007199254740992 ≤ (m' : Int)) = false := decide_eq_false (by omega)
      by_cases c4 : e' < -1074
      · have H := Lib.hid (show ¬ ExR m 1 e by rw [h1]; exact make_no1 ho (by omega))
        have d4 : decide (e' < -1074) = true := decide_eq_true c4
        clear h1
        go_wp2_with fail
        go_ret2
        exact retMk_no H.out
      have d4 : decide (e' < -1074) = false := decide_eq_false c4
      have H1 := Lib.hid h1
      have H2 := Lib.hid h2
      clear h1 h2
      go_wp2_with fail
      clear d3 d4 hev2
      go_loop [1, 2] (fun x y => ∃ (m2 : Nat) (e2 : Int), x = .int .u64 m2 ∧ y = .int .i64 e2 ∧ Up2 m' e' m2 e2) (fun _ y => (intOf y + 1074).toNat)
      case atStart => exact ⟨m', e', rfl, rfl, up2_0 (by omega) (by omega)⟩
      case round =>
        obtain ⟨m2, e2, rfl, rfl, hu⟩ := hrel
        obtain ⟨a1, a2, a3⟩ : m2 < 9007199254740992 ∧ -1074 ≤ e2 ∧ e2 ≤ e' := by obtain ⟨j, _, _, _, _⟩ := hu; omega
        by_cases c5 : m2 < 4503599627370496
        · have d5 : decide ((m2 : Int) < 4503599627370496) = true := decide_eq_true (by omega)
          by_cases c6 : -1074 < e2
          · have d6 : decide (-1074 < e2) = true := decide_eq_true c6
            have hn := Lib.hid (up2_step hu c5 c6)
            clear hu
            go_wp2_with fail
            go_round
            case rel => exact ⟨m2 * 2, e2 - 1, by go_num, by go_num, hn.out⟩
            case measure => simp [intOf]; omega
          · have d6 : decide (-1074 < e2) = false := decide_eq_false c6
            have hh2 := H2.out
            subst hh2
            obtain ⟨g1, g2⟩ := up2_end hu (by omega)
            rw [← H1.out] at g1 g2
            have g3 := g2.2 (by omega)
            have g4 : magR m 1 e = m2 := by
              rw [g1, show (e2 + 1074).toNat = 0 by omega, Nat.zero_mul, Nat.zero_add]; have := INF_lit; omega
            have G3 := Lib.hid g3
            have G4 := Lib.hid g4
            have S := Lib.hid (rf_signed s (b := m2) (by omega) w)
            clear g1 g2 g3 g4 hu
            go_wp2_with fail
            with_reducible refine S.out.mono ?_
            rintro _ w' ⟨rfl, rfl⟩
            go_wp2_with fail
            go_ret2
            exact retMk_yes G3.out G4.out rfl
        · have d5 : decide ((m2 : Int) < 4503599627370496) = false := decide_eq_false (by omega)
          have hh2 := H2.out
          subst hh2
          obtain ⟨g1, g2⟩ := up2_end hu (by omega)
          rw [← H1.out] at g1 g2
          by_cases c7 : 971 < e2
          · have H := Lib.hid (show ¬ ExR m 1 e by rw [g2]; omega)
            clear g1 g2 hu
            go_wp2_with fail
            go_ret2
            exact retMk_no H.out
          · have g3 := g2.2 (by omega)
            obtain ⟨l, hl⟩ : ∃ l : Nat, e2 + 1074 = l := ⟨(e2 + 1074).toNat, by omega⟩
            have g5 := up2_val g1 hl (by omega) a1
            clear hl
            have hle := magR_le m 1 e
            have S := Lib.hid (rf_signed s (b := magR m 1 e) (by omega) w)
            have G3 := Lib.hid g3
            have G5 := Lib.hid g5
            clear g1 g2 g3 hu g5
            generalize hb : magR m 1 e = b at *
            go_wp2_with fail
            rw [G5.out]
            with_reducible refine S.out.mono ?_
            rintro _ w' ⟨rfl, rfl⟩
            go_wp2_with fail
            go_ret2
            exact retMk_yes G3.out hb rfl

end Go.Proofs.Ytmoahgiklgicgaa
