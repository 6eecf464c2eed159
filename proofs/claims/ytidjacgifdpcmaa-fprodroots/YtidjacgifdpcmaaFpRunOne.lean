/-
  What fprod.full, mark and root return. Conditions: the words are below 2^64; full: the double is finite.
-/
import Derived.Test.YtidjacgifdpcmaaFpMathOne
import Derived.Test.YtidjacgifdpcmaaFsRunOne
import Derived.Test.YtidjacgifdpcmaaLimbDiv
namespace Go.Proofs.Ytidjacgifdpcmaa
set_option maxRecDepth 100000
open Go.RowKit
set_option linter.unusedVariables false
set_option linter.unusedSimpArgs false

set_option maxHeartbeats 1000000 in
theorem fp_mark {m r : Nat} (hm : m < 18446744073709551616) (w : World) :
    Calls Try.prog 56 #[.int .u64 m, .int .u64 r] w fun e w' => e = .returned (.int .u64 (mkd m (decide (r ≠ 0)))) ∧ w = w' := by
  have e2 := or_one (q := m) hm
  by_cases h : r = 0
  · subst h
    rw [decide_eq_false (by omega), mkd_no]
    go_enter Try.func56, Try.ntmps56
    go_wp2_with fail
    go_ret
    exact ⟨rfl, rfl⟩
  · rw [decide_eq_true h, mkd_yes]
    have g : ((r : Int) != 0) = true := by simp; omega
    go_enter Try.func56, Try.ntmps56
    go_wp2_with fail
    go_ret
    exact ⟨ret1 (by omega), rfl⟩
set_option maxHeartbeats 1000000 in
theorem fp_full {b : Nat} (hb : b < 18446744073709551616) (hf : fld b < 2047) (w : World) :
    Calls Try.prog 53 #[.int .u64 b] w fun e w' => e = .returned (.tuple #[.int .u64 (fsg b), .int .i64 (fxp b)]) ∧ w = w' := by
  have P := Lib.hid (fb_partsY hb hf w)
  have s1 := sig_lt b
  have hbl := sig_blen b
  have L := limb_len (sig b : Int) (by unfold U; omega) w
  rw [Int.toNat_natCast] at L
  have HL := Lib.hid L
  obtain ⟨n, hn⟩ : ∃ n : Nat, 64 - blen (sig b) = n := ⟨_, rfl⟩
  have hn1 : (64 : Int) - blen (sig b) = n := by omega
  have hfl := fsg_lt b
  have r1 := xpo_range hf
  have hx : fxp b = xpo b - n := by unfold fxp; rw [hn]
  have hg : IntKind.u64.wrap ((sig b : Int) * 2 ^ n) = ((fsg b : Nat) : Int) := by
    have : fsg b = sig b * 2 ^ n := by unfold fsg; rw [hn]
    rw [this] at hfl ⊢
    have hc : (sig b : Int) * 2 ^ n = ((sig b * 2 ^ n : Nat) : Int) := by push_cast; rfl
    rw [hc, wrapU]
    omega
  generalize fsg b = F at *
  generalize fxp b = X at *
  generalize sig b = s at *
  generalize xpo b = x at *
  generalize blen s = l at *
  have HX := Lib.hid hx
  clear hx L hn
  go_enter Try.func53, Try.ntmps53
  go_wp2_with fail
  refine P.out.mono ?_
  rintro _ w' ⟨rfl, rfl⟩
  go_wp2_with fail
  refine HL.out.mono ?_
  rintro _ w' ⟨rfl, rfl⟩
  go_wp2_with fail
  go_ret2
  exact ⟨ret2 rfl (by rw [HX.out]), rfl⟩

/-- after k pairs of bits -/
def RootAt (m k mi r s : Nat) : Prop := k ≤ 56 ∧ r * r + s = m * 4 ^ k / 18446744073709551616 ∧ s ≤ 2 * r ∧ mi = m * 4 ^ k % 18446744073709551616 ∧ r < 2 ^ k
theorem rootAt_0 {m : Nat} (h : m < 18446744073709551616) : RootAt m 0 m 0 0 := ⟨by omega, by rw [Nat.pow_zero]; omega, by omega, by rw [Nat.pow_zero]; omega, by decide⟩
theorem rootAt_next {m k mi r s : Nat} (h : RootAt m k mi r s) : 2 * r * (2 * r) + (4 * s + mi / 4611686018427387904) = m * 4 ^ (k + 1) / 18446744073709551616 ∧ mi * 4 % 18446744073709551616 = m * 4 ^ (k + 1) % 18446744073709551616 := by
  obtain ⟨h1, h2, h3, h4, h5⟩ := h
  have e : m * 4 ^ (k + 1) = m * 4 ^ k * 4 := by rw [Nat.pow_succ, Nat.mul_assoc]
  have e2 : 2 * r * (2 * r) = 4 * (r * r) := by grind
  rw [e, e2]
  generalize m * 4 ^ k = z at *
  generalize r * r = q at *
  omega
theorem rootAt_yes {m k mi r s : Nat} (h : RootAt m k mi r s) (hk : k < 56) (hc : 4 * r + 1 ≤ 4 * s + mi / 4611686018427387904) : RootAt m (k + 1) (mi * 4 % 18446744073709551616) (2 * r + 1) (4 * s + mi / 4611686018427387904 - (4 * r + 1)) := by
  obtain ⟨a1, a2⟩ := rootAt_next h
  obtain ⟨h1, h2, h3, h4, h5⟩ := h
  have hm : mi < 18446744073709551616 := by rw [h4]; exact Nat.mod_lt _ (by omega)
  refine ⟨by omega, ?_, by omega, a2, by rw [Nat.pow_succ]; omega⟩
  rw [← a1]
  have : (2 * r + 1) * (2 * r + 1) = 2 * r * (2 * r) + 4 * r + 1 := by grind
  omega
theorem rootAt_no {m k mi r s : Nat} (h : RootAt m k mi r s) (hk : k < 56) (hc : ¬ 4 * r + 1 ≤ 4 * s + mi / 4611686018427387904) : RootAt m (k + 1) (mi * 4 % 18446744073709551616) (2 * r) (4 * s + mi / 4611686018427387904) := by
  obtain ⟨a1, a2⟩ := rootAt_next h
  obtain ⟨h1, h2, h3, h4, h5⟩ := h
  exact ⟨by omega, a1, by omega, a2, by rw [Nat.pow_succ]; omega⟩
theorem rootAt_end {m mi r s : Nat} (h : RootAt m 56 mi r s) : r = rt (m * 281474976710656) ∧ s = m * 281474976710656 - rt (m * 281474976710656) * rt (m * 281474976710656) := by
  obtain ⟨h1, h2, h3, h4, h5⟩ := h
  have e : m * 4 ^ 56 = m * 281474976710656 * 18446744073709551616 := by rw [Nat.mul_assoc, show (281474976710656 : Nat) * 18446744073709551616 = 4 ^ 56 by decide]
  rw [e, Nat.mul_div_cancel _ (by omega)] at h2
  have hr := rt_unique (a := m * 281474976710656) (r := r) (by omega) (by have := sq_succ r; omega)
  rw [hr]
  exact ⟨rfl, by omega⟩
theorem rootAt_bounds {m k mi r s : Nat} (h : RootAt m k mi r s) : k ≤ 56 ∧ s ≤ 2 * r ∧ r < 72057594037927936 ∧ mi < 18446744073709551616 := by
  obtain ⟨h1, h2, h3, h4, h5⟩ := h
  have : 2 ^ k ≤ 2 ^ 56 := Nat.pow_le_pow_right (by omega) h1
  exact ⟨h1, h3, by omega, by rw [h4]; exact Nat.mod_lt _ (by omega)⟩

set_option maxHeartbeats 2000000 in
theorem fp_root {m : Nat} (hm : m < 18446744073709551616) (w : World) :
    Calls Try.prog 63 #[.int .u64 m] w fun e w' => e = .returned (.tuple #[.int .u64 (rt (m * 281474976710656)), .int .u64 ((m * 281474976710656 - rt (m * 281474976710656) * rt (m * 281474976710656) : Nat) : Int)]) ∧ w = w' := by
  have HE := Lib.hid (fun mi r s => rootAt_end (m := m) (mi := mi) (r := r) (s := s))
  generalize rt (m * 281474976710656) = R at *
  generalize m * 281474976710656 - R * R = T at *
  go_enter Try.func63, Try.ntmps63
  go_wp2
  go_loop [0, 4, 5, 7] (fun x r s i => ∃ mi rr ss k : Nat, x = .int .u64 mi ∧ r = .int .u64 rr ∧ s = .int .u64 ss ∧ i = .int .i64 k ∧ RootAt m k mi rr ss) (fun _ _ _ i => (56 - intOf i).toNat)
  case atStart => exact ⟨m, 0, 0, 0, rfl, rfl, rfl, rfl, rootAt_0 hm⟩
  case round =>
    obtain ⟨mi, r, s, k, rfl, rfl, rfl, rfl, hk⟩ := hrel
    obtain ⟨b1, b2, b3, b4⟩ := rootAt_bounds hk
    by_cases h0 : k = 56
    · subst h0
      have HK := Lib.hid hk
      clear hk
      go_wp2
      go_ret2
      exact ⟨ret2 (by have := (HE.out _ _ _ HK.out).1; omega) (by have := (HE.out _ _ _ HK.out).2; omega), rfl⟩
    · have e1 : bits .or .u64 ((s : Int) * 4) ((mi : Int) / 4611686018427387904) = ((4 * s + mi / 4611686018427387904 : Nat) : Int) := by
        rw [or_join 2 (by unfold U; omega) (by simp) (by omega) (by simp; omega) (by unfold U; omega)]; omega
      have e2 : bits .or .u64 ((r : Int) * 4) 1 = ((4 * r + 1 : Nat) : Int) := by
        rw [or_join 2 (by unfold U; omega) (by simp) (by omega) (by simp) (by unfold U; omega)]; omega
      have e3 : bits .or .u64 ((r : Int) * 2) 1 = ((2 * r + 1 : Nat) : Int) := by
        rw [or_join 1 (by unfold U; omega) (by simp) (by omega) (by simp) (by unfold U; omega)]; omega
      have e4 : IntKind.u64.wrap ((mi : Int) * 4) = ((mi * 4 % 18446744073709551616 : Nat) : Int) := by rw [wrapU]; omega
      have hd : mi / 4611686018427387904 ≤ 3 := by omega
      have HY := Lib.hid (rootAt_yes hk (by omega))
      have HN := Lib.hid (rootAt_no hk (by omega))
      generalize hm4 : mi * 4 % 18446744073709551616 = m4 at *
      generalize hd4 : mi / 4611686018427387904 = d at *
      clear hk hm4 hd4
      obtain ⟨S, hS⟩ : ∃ S : Nat, S = 4 * s + d := ⟨_, rfl⟩
      rw [← hS] at e1 HY HN
      obtain ⟨G, hG⟩ : ∃ G : Nat, G = 4 * r + 1 := ⟨_, rfl⟩
      rw [← hG] at e2 HY HN
      have c1 : S ≤ 576460752303423488 := by omega
      have c2 : G ≤ 576460752303423488 := by omega
      clear hS hG
      by_cases hc : G ≤ S
      · go_wp2
        go_round
        case rel => exact ⟨m4, 2 * r + 1, S - G, k + 1, rfl, by go_num, by go_num, by go_num, HY.out hc⟩
        case measure => simp [intOf]; omega
      · go_wp2
        go_round
        case rel => exact ⟨m4, 2 * r, S, k + 1, rfl, by go_num, by go_num, by go_num, HN.out hc⟩
        case measure => simp [intOf]; omega

end Go.Proofs.Ytidjacgifdpcmaa
