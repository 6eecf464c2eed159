/-
  The walks of the laws FbitsTells and FbitsMakes: each returns true for any words, signs and ints. No condition but that they fit their kinds.
-/
import Derived.Test.YtibgpeaplmcogaaGreatDoorFsMathAllE
import Derived.Test.YtibgpeaplmcogaaGreatDoorRefProdAllE
import Derived.Test.YtibgpeaplmcogaaGreatDoorRefGcdAllE
import Derived.Test.YtibgpeaplmcogaaGreatDoorQuotMathAllE
import Derived.Below
namespace Go.Proofs.YtibgpeaplmcogaaGreatDoor
set_option maxRecDepth 100000
open Go.RowKit
set_option linter.unusedVariables false
set_option linter.unusedSimpArgs false

theorem sl_pos {w : World} {A : Option Addr} {n c v : Nat} (h : Sl w A n c (words v)) (h0 : 0 < v) : 0 < n := by
  rcases Nat.eq_zero_or_pos n with h1 | h1
  · exfalso
    have h2 := h.len
    have h3 : words v = [] := List.eq_nil_of_length_eq_zero (by omega)
    have h4 := val_words v
    rw [h3] at h4
    have : val [] = 0 := rfl
    omega
  · exact h1
theorem sl_zero {w : World} {A : Option Addr} {n c : Nat} (h : Sl w A n c (words 0)) : n = 0 := h.len
theorem sl_onew {w : World} {A : Option Addr} {n c v : Nat} (h : Sl w A n c (words v)) (h0 : 0 < v) (h1 : v < W) : n = 1 ∧ ∃ p o, A = some ⟨p, o, none⟩ ∧ w.cell? ⟨p, o, none⟩ = some (.int .u64 (v : Int)) := by
  rw [words_small v h0 h1] at h
  have hl : n = 1 := h.len
  subst hl
  obtain ⟨b, off, e, hb, hc⟩ := h.at_ (k := 0) (by omega)
  exact ⟨rfl, b, off, e, hc 0 (by omega)⟩
theorem bbw {a b c : World} (h : Below a.heap.size a b) (k : Below b.heap.size b c) : Below a.heap.size a c := h.trans (k.mono h.size)
theorem blen_pow_W {v k : Nat} (h : v < W ^ k) : blen v ≤ 64 * k := by
  apply blen_le
  rw [W_pow, ← Nat.pow_mul] at h
  exact h
theorem pow_lt_W {k N : Nat} (h : k < 64 * N) : 2 ^ k < W ^ N := by
  rw [W_pow, ← Nat.pow_mul]; exact Nat.pow_lt_pow_right (by omega) h
theorem more_lt {v k : Nat} (h : v < W ^ k) : 2 * v + 1 < W ^ (k + 1) := by
  have : W ^ k * 2 ≤ W ^ k * W := Nat.mul_le_mul_left _ two_le_W
  rw [Nat.pow_succ]
  omega
theorem clampS_nat {k : Nat} (h : k ≤ 65536) : clampS (k : Int) = k := by rw [clampS_mid (by omega) (by omega)]; omega

set_option maxRecDepth 100000 in
set_option maxHeartbeats 4000000 in
theorem rf_of (s : Bool) {w : World} {A : Option Addr} {n c : Nat} {xs : List Int} (h : Sl w A n c xs) (hn : n ≤ 200) {e : Int} (he : -1099511627777 ≤ e) (he2 : e ≤ 1099511627776) :
    Calls Tryz.prog 177 #[.bool s, .slice A n c, .int .i64 e] w (RetW (sg s (magR (val xs) 1 e)) w) := by
  have hv : val xs < W ^ n := val_lt_pow h.us (by have := h.len; omega)
  have HT := ref_trim h (by omega)
  generalize val xs = v at *
  have HT := Lib.hid HT
  rcases Nat.eq_zero_or_pos v with hz | h0
  · subst hz
    have HR := Lib.hid (magR_zero 1 e)
    go_enter Tryz.func177, Tryz.ntmps177
    go_wp2_with fail
    refine HT.out.mono ?_
    rintro _ w1 ⟨A1, n1, c1, rfl, t1, b1⟩
    obtain rfl := sl_zero t1
    go_wp2_with fail
    refine (rf_signed s (b := 0) (by omega) _).mono ?_
    rintro _ w' ⟨rfl, rfl⟩
    go_wp2_with fail
    go_ret
    exact ⟨ret1 (by rw [HR.out]), b1⟩
  obtain ⟨L, hL⟩ : ∃ L, blen v = L := ⟨_, rfl⟩
  have hL1 : L ≤ 12800 := by rw [← hL]; exact Nat.le_trans (blen_pow_W hv) (by omega)
  have hL0 : 0 < L := by rw [← hL]; exact blen_pos h0
  by_cases c1 : 2000 < e
  · have HR := Lib.hid (magR_big1 h0 (e := e) (by rw [hL]; omega))
    go_enter Tryz.func177, Tryz.ntmps177
    go_wp2_with fail
    refine HT.out.mono ?_
    rintro _ w1 ⟨A1, n1, c1, rfl, t1, b1⟩
    have hn1 : 0 < n1 := sl_pos t1 h0
    have hz1 : ((n1 : Int) == 0) = false := by simp; omega
    have l1 : n1 ≤ 200 := Nat.le_trans (t1.small hv) hn
    have HB := ref_bits t1 (by omega)
    rw [val_words, hL] at HB
    have HB := Lib.hid HB
    go_wp2_with fail
    refine HB.out.mono ?_
    rintro _ w' ⟨rfl, rfl⟩
    clear HB
    go_wp2_with fail
    refine (rf_inf s _).mono ?_
    rintro _ w' ⟨rfl, rfl⟩
    go_wp2_with fail
    go_ret
    exact ⟨ret1 (by rw [HR.out]), b1⟩
  by_cases c2 : e < -1200 - (L : Int)
  · have HR := Lib.hid (magR_small (p := v) (q := 1) (e := e) (by omega) (by rw [hL, show blen 1 = 1 by decide]; omega))
    go_enter Tryz.func177, Tryz.ntmps177
    go_wp2_with fail
    refine HT.out.mono ?_
    rintro _ w1 ⟨A1, n1, c1, rfl, t1, b1⟩
    have hn1 : 0 < n1 := sl_pos t1 h0
    have hz1 : ((n1 : Int) == 0) = false := by simp; omega
    have l1 : n1 ≤ 200 := Nat.le_trans (t1.small hv) hn
    have HB := ref_bits t1 (by omega)
    rw [val_words, hL] at HB
    have HB := Lib.hid HB
    go_wp2_with fail
    refine HB.out.mono ?_
    rintro _ w' ⟨rfl, rfl⟩
    clear HB
    go_wp2_with fail
    refine (rf_signed s (b := 0) (by omega) _).mono ?_
    rintro _ w' ⟨rfl, rfl⟩
    go_wp2_with fail
    go_ret
    exact ⟨ret1 (by rw [HR.out]), b1⟩
  obtain ⟨low, hlow⟩ : ∃ low : Int, low = max ((L : Int) + e - 53) (-1074) := ⟨_, rfl⟩
  have hlow2 := hlow
  rw [← hL] at hlow2
  have hl1 : -1074 ≤ low := by omega
  by_cases c3 : 971 < low
  · have HR := Lib.hid (magR_big1 h0 (e := e) (by rw [hL]; omega))
    clear hlow2
    go_enter Tryz.func177, Tryz.ntmps177
    go_wp2_with fail
    refine HT.out.mono ?_
    rintro _ w1 ⟨A1, n1, c1, rfl, t1, b1⟩
    have hn1 : 0 < n1 := sl_pos t1 h0
    have hz1 : ((n1 : Int) == 0) = false := by simp; omega
    have l1 : n1 ≤ 200 := Nat.le_trans (t1.small hv) hn
    have HB := ref_bits t1 (by omega)
    rw [val_words, hL] at HB
    have HB := Lib.hid HB
    go_wp2_with fail
    refine HB.out.mono ?_
    rintro _ w' ⟨rfl, rfl⟩
    clear HB
    go_upto_region 9 with (fail)
    go_cut [8] (fun s8 wx => s8 = .int .i64 low ∧ w1 = wx)
    case first =>
      by_cases h1 : (L : Int) + e - 53 < -1074
      · go_wp2_with fail
        go_meet
        exact ⟨vint (by omega), rfl⟩
      · go_wp2_with fail
        go_meet
        exact ⟨vint (by omega), rfl⟩
    case rest =>
    obtain ⟨rfl, rfl⟩ := hcut
    clear hlow
    go_wp2_with fail
    refine (rf_inf s _).mono ?_
    rintro _ w' ⟨rfl, rfl⟩
    go_wp2_with fail
    go_ret
    exact ⟨ret1 (by rw [HR.out]), b1⟩
  by_cases c4 : low ≤ e
  · obtain ⟨k, hk⟩ : ∃ k : Nat, e - low = k := ⟨(e - low).toNat, by omega⟩
    have y2 := word_exact hlow2 c4
    have hX : v * 2 ^ k < 2 * B52 := lt_B52 hL (by omega)
    rw [B52_eq] at hX
    have s1 := magR_shift v 1 k (by omega) low
    have s2 := exR_shift v 1 k (by omega) low
    rw [show low + (k : Int) = e by omega] at s1 s2
    have HS := fun (w1 : World) (A1 : Option Addr) (n1 c1 : Nat) (t1 : Sl w1 A1 n1 c1 (words v)) (l1 : n1 ≤ 200) => ref_shl t1 (by omega) (k : Int)
    rw [val_words, clampS_nat (by omega)] at HS
    generalize v * 2 ^ k = X at *
    have hv9 : ∀ w1, ∃ v9 : Nat, ∃ ok : Bool, (Calls Tryz.prog 222 #[.bool s, .int .u64 X, .int .i64 low] w1 fun z w' => z = .returned (.tuple #[.int .u64 v9, .bool ok]) ∧ w1 = w') ∧ ((ok = true ∧ v9 = sg s (magR v 1 e)) ∨ (ok = false ∧ magR v 1 e = INF)) := by
      intro w1
      have hmk := rf_make s (m := X) (by omega) (e := low) (by omega) (by omega) w1
      unfold RetMk at hmk
      by_cases hx : ExR X 1 low
      · exact ⟨_, _, hmk, .inl ⟨decide_eq_true hx, by rw [mkW_yes hx, s1]⟩⟩
      · exact ⟨_, _, hmk, .inr ⟨decide_eq_false hx, y2 (fun h9 => hx (s2.2 h9))⟩⟩
    have HV := Lib.hid hv9
    have HS := Lib.hid HS
    clear hv9 s1 s2 y2 hlow2
    generalize magR v 1 e = R at *
    have d4 : decide (e < low) = false := decide_eq_false (by omega)
    go_enter Tryz.func177, Tryz.ntmps177
    go_wp2_with fail
    refine HT.out.mono ?_
    rintro _ w1 ⟨A1, n1, c1, rfl, t1, b1⟩
    have hn1 : 0 < n1 := sl_pos t1 h0
    have hz1 : ((n1 : Int) == 0) = false := by simp; omega
    have l1 : n1 ≤ 200 := Nat.le_trans (t1.small hv) hn
    have HB := ref_bits t1 (by omega)
    rw [val_words, hL] at HB
    have HB := Lib.hid HB
    go_wp2_with fail
    refine HB.out.mono ?_
    rintro _ w' ⟨rfl, rfl⟩
    clear HB
    go_upto_region 9 with (fail)
    go_cut [8] (fun s8 wx => s8 = .int .i64 low ∧ w1 = wx)
    case first =>
      by_cases h1 : (L : Int) + e - 53 < -1074
      · go_wp2_with fail
        go_meet
        exact ⟨vint (by omega), rfl⟩
      · go_wp2_with fail
        go_meet
        exact ⟨vint (by omega), rfl⟩
    case rest =>
    obtain ⟨rfl, rfl⟩ := hcut
    clear hlow
    go_wp2_with fail
    with_reducible refine (HS.out _ _ _ _ t1 l1).mono ?_
    rintro _ w2 ⟨A2, n2, c2, rfl, t2, b2⟩
    have x2 := bbw b1 b2
    clear hk t1
    obtain ⟨v9, ok, hcall, hcase⟩ := HV.out w2
    have HC := Lib.hid hcall
    clear hcall HV
    rcases Nat.eq_zero_or_pos X with hX0 | hX0
    · subst hX0
      obtain rfl := sl_zero t2
      rcases hcase with ⟨rfl, rfl⟩ | ⟨rfl, hI⟩
      · go_wp2_with fail
        refine HC.out.mono ?_
        rintro _ w' ⟨rfl, rfl⟩
        go_wp2_with fail
        go_ret
        exact ⟨rfl, x2⟩
      · have HI := Lib.hid hI
        clear hI
        go_wp2_with fail
        refine HC.out.mono ?_
        rintro _ w' ⟨rfl, rfl⟩
        go_wp2_with fail
        refine (rf_inf s _).mono ?_
        rintro _ w' ⟨rfl, rfl⟩
        go_wp2_with fail
        go_ret
        exact ⟨ret1 (by rw [HI.out]), x2⟩
    · obtain ⟨rfl, p9, o9, rfl, kc⟩ := sl_onew t2 hX0 (by unfold W; omega)
      rcases hcase with ⟨rfl, rfl⟩ | ⟨rfl, hI⟩
      · go_wp2_with fail
        refine HC.out.mono ?_
        rintro _ w' ⟨rfl, rfl⟩
        go_wp2_with fail
        go_ret
        exact ⟨rfl, x2⟩
      · have HI := Lib.hid hI
        clear hI
        go_wp2_with fail
        refine HC.out.mono ?_
        rintro _ w' ⟨rfl, rfl⟩
        go_wp2_with fail
        refine (rf_inf s _).mono ?_
        rintro _ w' ⟨rfl, rfl⟩
        go_wp2_with fail
        go_ret
        exact ⟨ret1 (by rw [HI.out]), x2⟩
  obtain ⟨k, hk⟩ : ∃ k : Nat, low - e = k := ⟨(low - e).toNat, by omega⟩
  obtain ⟨t, ht⟩ : ∃ t : Nat, low + 1074 = t := ⟨(low + 1074).toNat, by omega⟩
  obtain ⟨y1, y2, y3⟩ := word_round hlow2 (by omega) hk ht
  rw [B52_eq] at y3
  have hk1 : k ≤ 65536 := by omega
  have hk0 : 1 ≤ k := by omega
  have g1 := Nat.div_add_mod' v (2 ^ k)
  have g2 := Nat.mod_lt v (Nat.two_pow_pos k)
  have g3 : v / 2 ^ k ≤ v := Nat.div_le_self _ _
  have g4 : v % 2 ^ k ≤ v := Nat.mod_le _ _
  have g5 : 2 ^ k < W ^ (k / 64 + 1) := pow_lt_W (by omega)
  have hr : rdiv v (2 ^ k) = if 2 ^ k < 2 * (v % 2 ^ k) ∨ (2 * (v % 2 ^ k) = 2 ^ k ∧ v / 2 ^ k % 2 = 1) then v / 2 ^ k + 1 else v / 2 ^ k := rfl
  have S1 := fun (w1 : World) (A1 : Option Addr) (n1 c1 : Nat) (t1 : Sl w1 A1 n1 c1 (words v)) (l1 : n1 ≤ 200) => ref_shl t1 (by omega) (e - low)
  rw [val_words, clampS_neg (show e - low < 0 by omega), Nat.pow_zero, Nat.mul_one] at S1
  have S2 := fun (w1 : World) (A1 : Option Addr) (n1 c1 : Nat) (t1 : Sl w1 A1 n1 c1 (words v)) (l1 : n1 ≤ 200) => ref_shr t1 (by omega) (k : Int) (by omega)
  rw [val_words, Int.toNat_natCast] at S2
  have S3 := fun (w1 : World) (A1 : Option Addr) (n1 c1 : Nat) (t1 : Sl w1 A1 n1 c1 (words (v / 2 ^ k))) (l1 : n1 ≤ 200) => ref_shl t1 (by omega) (k : Int)
  rw [val_words, clampS_nat hk1] at S3
  have S4 := fun (w1 : World) (A1 A2 : Option Addr) (n1 c1 n2 c2 : Nat) (t1 : Sl w1 A1 n1 c1 (words v)) (t2 : Sl w1 A2 n2 c2 (words (v / 2 ^ k * 2 ^ k))) (l1 : n1 ≤ 200) (l2 : n2 ≤ 200) => ref_nsub t1 t2 (by omega) (by omega) (by rw [val_words, val_words]; omega)
  rw [val_words, val_words, show v - v / 2 ^ k * 2 ^ k = v % 2 ^ k by omega] at S4
  have g6 : v / 2 ^ k * 2 ^ k ≤ v := by omega
  generalize v / 2 ^ k * 2 ^ k = M at *
  have S6 := fun (w1 : World) => ref_shl (sl_lit w1 1 U_1) (by omega) (k : Int)
  rw [show val [1] = 1 by decide, clampS_nat hk1, Nat.one_mul] at S6
  generalize v / 2 ^ k = q at *
  generalize v % 2 ^ k = r at *
  generalize rdiv v (2 ^ k) = X at *
  generalize 2 ^ k = K at *
  have hv9 : ∀ w1, ∃ v9 : Nat, ∃ ok : Bool, (Calls Tryz.prog 222 #[.bool s, .int .u64 X, .int .i64 low] w1 fun z w' => z = .returned (.tuple #[.int .u64 v9, .bool ok]) ∧ w1 = w') ∧ ((ok = true ∧ v9 = sg s (magR v 1 e)) ∨ (ok = false ∧ magR v 1 e = INF)) := by
    intro w1
    have hmk := rf_make s (m := X) (by omega) (e := low) (by omega) (by omega) w1
    unfold RetMk at hmk
    by_cases hx : ExR X 1 low
    · exact ⟨_, _, hmk, .inl ⟨decide_eq_true hx, by rw [mkW_yes hx, y1 hx]⟩⟩
    · exact ⟨_, _, hmk, .inr ⟨decide_eq_false hx, y2 hx⟩⟩
  clear y1 y2 ht
  generalize magR v 1 e = R at *
  have HV := Lib.hid hv9
  have HS1 := Lib.hid S1
  have HS2 := Lib.hid S2
  have HS3 := Lib.hid S3
  have HS4 := Lib.hid S4
  have HS6 := Lib.hid S6
  have HG5 := Lib.hid g5
  have Hv := Lib.hid hv
  clear hv9 S1 S2 S3 S4 S6 hlow2 g1 g5
  have d4 : e < low := by omega
  have hcm : (K < 2 * r ∧ X = q + 1) ∨ (2 * r = K ∧ q % 2 = 1 ∧ X = q + 1) ∨ (2 * r = K ∧ ¬ q % 2 = 1 ∧ X = q) ∨ (2 * r < K ∧ X = q) := by
    by_cases a1 : K < 2 * r
    · rw [if_pos (.inl a1)] at hr; exact .inl ⟨a1, hr⟩
    · by_cases a2 : 2 * r = K
      · by_cases a3 : q % 2 = 1
        · rw [if_pos (.inr ⟨a2, a3⟩)] at hr; exact .inr (.inl ⟨a2, a3, hr⟩)
        · rw [if_neg (by omega)] at hr; exact .inr (.inr (.inl ⟨a2, a3, hr⟩))
      · rw [if_neg (by omega)] at hr; exact .inr (.inr (.inr ⟨by omega, hr⟩))
  clear hr
  rcases hcm with ⟨a1, aX⟩ | ⟨a1, a2, aX⟩ | ⟨a1, a2, aX⟩ | ⟨a1, aX⟩
  · go_enter Tryz.func177, Tryz.ntmps177
    go_wp2_with fail
    refine HT.out.mono ?_
    rintro _ w1 ⟨A1, n1, c1, rfl, t1, b1⟩
    have hn1 : 0 < n1 := sl_pos t1 h0
    have hz1 : ((n1 : Int) == 0) = false := by simp; omega
    have l1 : n1 ≤ 200 := Nat.le_trans (t1.small hv) hn
    have HB := ref_bits t1 (by omega)
    rw [val_words, hL] at HB
    have HB := Lib.hid HB
    go_wp2_with fail
    refine HB.out.mono ?_
    rintro _ w' ⟨rfl, rfl⟩
    clear HB
    go_upto_region 9 with (fail)
    go_cut [8] (fun s8 wx => s8 = .int .i64 low ∧ w1 = wx)
    case first =>
      by_cases h1 : (L : Int) + e - 53 < -1074
      · go_wp2_with fail
        go_meet
        exact ⟨vint (by omega), rfl⟩
      · go_wp2_with fail
        go_meet
        exact ⟨vint (by omega), rfl⟩
    case rest =>
    obtain ⟨rfl, rfl⟩ := hcut
    clear hlow
    go_wp2_with fail
    with_reducible refine (HS1.out _ _ _ _ t1 l1).mono ?_
    rintro _ w2 ⟨A2, n2, c2, rfl, t2, b2⟩
    clear t2
    go_wp2_with fail
    with_reducible refine (HS2.out _ _ _ _ (t1.below b2) l1).mono ?_
    rintro _ w3 ⟨A3, n3, c3, rfl, t3, b3⟩
    have l3 : n3 ≤ 200 := Nat.le_trans (t3.small (Nat.lt_of_le_of_lt g3 Hv.out)) hn
    go_wp2_with fail
    with_reducible refine (HS3.out _ _ _ _ t3 l3).mono ?_
    rintro _ w4 ⟨A4, n4, c4, rfl, t4, b4⟩
    have l4 : n4 ≤ 200 := Nat.le_trans (t4.small (Nat.lt_of_le_of_lt g6 Hv.out)) hn
    go_wp2_with fail
    with_reducible refine (HS4.out _ _ _ _ _ _ _ (((t1.below b2).below b3).below b4) t4 l1 l4).mono ?_
    rintro _ w5 ⟨A5, n5, c5, rfl, t5, b5⟩
    have l5 : n5 ≤ 200 := Nat.le_trans (t5.small (Nat.lt_of_le_of_lt g4 Hv.out)) hn
    have S5 := ref_shl t5 (by omega) 1
    rw [val_words, show clampS 1 = 1 by decide, Nat.pow_one] at S5
    have HS5 := Lib.hid S5
    clear S5
    go_wp2_with fail
    refine HS5.out.mono ?_
    rintro _ w6 ⟨A6, n6, c6, rfl, t6, b6⟩
    have l6 : n6 ≤ n + 1 := t6.small (mul_lt_pow (m := 1) (l := 1) (Nat.lt_of_le_of_lt g4 Hv.out) (by omega))
    clear HS5
    have b7 := below_alloc w6 (.cells #[.int .u64 1] 76)
    go_wp2_with fail
    refine (HS6.out _).mono ?_
    rintro _ w8 ⟨A8, n8, c8, rfl, t8, b8⟩
    have l8 : n8 ≤ k / 64 + 1 := t8.small HG5.out
    have HC6 := ref_cmp ((t6.below b7).below b8) t8 (by omega) (by omega)
    rw [val_words, val_words] at HC6
    rw [show cmpN (r * 2) K = 1 by unfold cmpN; rw [if_neg (by omega), if_pos (by omega)]] at HC6
    have HC6 := Lib.hid HC6
    go_wp2_with fail
    refine HC6.out.mono ?_
    rintro _ w' ⟨rfl, rfl⟩
    clear HC6
    have t3 := ((((t3.below b4).below b5).below b6).below b7).below b8
    have x8 := bbw b1 (bbw b2 (bbw b3 (bbw b4 (bbw b5 (bbw b6 (bbw b7 b8))))))
    clear t1 t4 t5 t6 t8 b1 b2 b3 b4 b5 b6 b7 b8 HS1 HS2 HS3 HS4 HS6 HT
    have t3b := t3.below (below_alloc w8 (.cells #[.int .u64 1] 76))
    have HA := ref_nadd t3b (sl_lit w8 1 U_1) (by omega) (by omega)
    rw [val_words, show val [1] = 1 by decide, ← aX] at HA
    have HA := Lib.hid HA
    have x8b := x8.alloc x8.size (.cells #[.int .u64 1] 76)
    go_wp2_with fail
    refine HA.out.mono ?_
    rintro _ w9 ⟨A9, n9, c9, rfl, t9, b9⟩
    have x9 := bbw x8b b9
    clear t3 t3b x8 x8b b9 HA aX
    obtain ⟨v9, ok, hcall, hcase⟩ := HV.out w9
    have HC := Lib.hid hcall
    clear hcall HV
    rcases Nat.eq_zero_or_pos X with hX0 | hX0
    · subst hX0
      obtain rfl := sl_zero t9
      rcases hcase with ⟨rfl, rfl⟩ | ⟨rfl, hI⟩
      · go_wp2_with fail
        refine HC.out.mono ?_
        rintro _ w' ⟨rfl, rfl⟩
        go_wp2_with fail
        go_ret
        exact ⟨rfl, x9⟩
      · have HI := Lib.hid hI
        clear hI
        go_wp2_with fail
        refine HC.out.mono ?_
        rintro _ w' ⟨rfl, rfl⟩
        go_wp2_with fail
        refine (rf_inf s _).mono ?_
        rintro _ w' ⟨rfl, rfl⟩
        go_wp2_with fail
        go_ret
        exact ⟨ret1 (by rw [HI.out]), x9⟩
    · obtain ⟨rfl, p9, o9, rfl, kc⟩ := sl_onew t9 hX0 (by unfold W; omega)
      rcases hcase with ⟨rfl, rfl⟩ | ⟨rfl, hI⟩
      · go_wp2_with fail
        refine HC.out.mono ?_
        rintro _ w' ⟨rfl, rfl⟩
        go_wp2_with fail
        go_ret
        exact ⟨rfl, x9⟩
      · have HI := Lib.hid hI
        clear hI
        go_wp2_with fail
        refine HC.out.mono ?_
        rintro _ w' ⟨rfl, rfl⟩
        go_wp2_with fail
        refine (rf_inf s _).mono ?_
        rintro _ w' ⟨rfl, rfl⟩
        go_wp2_with fail
        go_ret
        exact ⟨ret1 (by rw [HI.out]), x9⟩
  · go_enter Tryz.func177, Tryz.ntmps177
    go_wp2_with fail
    refine HT.out.mono ?_
    rintro _ w1 ⟨A1, n1, c1, rfl, t1, b1⟩
    have hn1 : 0 < n1 := sl_pos t1 h0
    have hz1 : ((n1 : Int) == 0) = false := by simp; omega
    have l1 : n1 ≤ 200 := Nat.le_trans (t1.small hv) hn
    have HB := ref_bits t1 (by omega)
    rw [val_words, hL] at HB
    have HB := Lib.hid HB
    go_wp2_with fail
    refine HB.out.mono ?_
    rintro _ w' ⟨rfl, rfl⟩
    clear HB
    go_upto_region 9 with (fail)
    go_cut [8] (fun s8 wx => s8 = .int .i64 low ∧ w1 = wx)
    case first =>
      by_cases h1 : (L : Int) + e - 53 < -1074
      · go_wp2_with fail
        go_meet
        exact ⟨vint (by omega), rfl⟩
      · go_wp2_with fail
        go_meet
        exact ⟨vint (by omega), rfl⟩
    case rest =>
    obtain ⟨rfl, rfl⟩ := hcut
    clear hlow
    go_wp2_with fail
    with_reducible refine (HS1.out _ _ _ _ t1 l1).mono ?_
    rintro _ w2 ⟨A2, n2, c2, rfl, t2, b2⟩
    clear t2
    go_wp2_with fail
    with_reducible refine (HS2.out _ _ _ _ (t1.below b2) l1).mono ?_
    rintro _ w3 ⟨A3, n3, c3, rfl, t3, b3⟩
    have l3 : n3 ≤ 200 := Nat.le_trans (t3.small (Nat.lt_of_le_of_lt g3 Hv.out)) hn
    go_wp2_with fail
    with_reducible refine (HS3.out _ _ _ _ t3 l3).mono ?_
    rintro _ w4 ⟨A4, n4, c4, rfl, t4, b4⟩
    have l4 : n4 ≤ 200 := Nat.le_trans (t4.small (Nat.lt_of_le_of_lt g6 Hv.out)) hn
    go_wp2_with fail
    with_reducible refine (HS4.out _ _ _ _ _ _ _ (((t1.below b2).below b3).below b4) t4 l1 l4).mono ?_
    rintro _ w5 ⟨A5, n5, c5, rfl, t5, b5⟩
    have l5 : n5 ≤ 200 := Nat.le_trans (t5.small (Nat.lt_of_le_of_lt g4 Hv.out)) hn
    have S5 := ref_shl t5 (by omega) 1
    rw [val_words, show clampS 1 = 1 by decide, Nat.pow_one] at S5
    have HS5 := Lib.hid S5
    clear S5
    go_wp2_with fail
    refine HS5.out.mono ?_
    rintro _ w6 ⟨A6, n6, c6, rfl, t6, b6⟩
    have l6 : n6 ≤ n + 1 := t6.small (mul_lt_pow (m := 1) (l := 1) (Nat.lt_of_le_of_lt g4 Hv.out) (by omega))
    clear HS5
    have b7 := below_alloc w6 (.cells #[.int .u64 1] 76)
    go_wp2_with fail
    refine (HS6.out _).mono ?_
    rintro _ w8 ⟨A8, n8, c8, rfl, t8, b8⟩
    have l8 : n8 ≤ k / 64 + 1 := t8.small HG5.out
    have HC6 := ref_cmp ((t6.below b7).below b8) t8 (by omega) (by omega)
    rw [val_words, val_words] at HC6
    rw [show cmpN (r * 2) K = 0 by unfold cmpN; rw [if_neg (by omega), if_neg (by omega)]] at HC6
    have HC6 := Lib.hid HC6
    go_wp2_with fail
    refine HC6.out.mono ?_
    rintro _ w' ⟨rfl, rfl⟩
    clear HC6
    have t3 := ((((t3.below b4).below b5).below b6).below b7).below b8
    have x8 := bbw b1 (bbw b2 (bbw b3 (bbw b4 (bbw b5 (bbw b6 (bbw b7 b8))))))
    clear t1 t4 t5 t6 t8 b1 b2 b3 b4 b5 b6 b7 b8 HS1 HS2 HS3 HS4 HS6 HT
    have HBt := ref_bit t3 (by omega) 0 (by omega)
    rw [val_words, show bitN q 0 = true by unfold bitN; simp; omega] at HBt
    have HBt := Lib.hid HBt
    go_wp2_with fail
    refine HBt.out.mono ?_
    rintro _ w' ⟨rfl, rfl⟩
    clear HBt
    have t3b := t3.below (below_alloc w8 (.cells #[.int .u64 1] 76))
    have HA := ref_nadd t3b (sl_lit w8 1 U_1) (by omega) (by omega)
    rw [val_words, show val [1] = 1 by decide, ← aX] at HA
    have HA := Lib.hid HA
    have x8b := x8.alloc x8.size (.cells #[.int .u64 1] 76)
    go_wp2_with fail
    refine HA.out.mono ?_
    rintro _ w9 ⟨A9, n9, c9, rfl, t9, b9⟩
    have x9 := bbw x8b b9
    clear t3 t3b x8 x8b b9 HA aX
    obtain ⟨v9, ok, hcall, hcase⟩ := HV.out w9
    have HC := Lib.hid hcall
    clear hcall HV
    rcases Nat.eq_zero_or_pos X with hX0 | hX0
    · subst hX0
      obtain rfl := sl_zero t9
      rcases hcase with ⟨rfl, rfl⟩ | ⟨rfl, hI⟩
      · go_wp2_with fail
        refine HC.out.mono ?_
        rintro _ w' ⟨rfl, rfl⟩
        go_wp2_with fail
        go_ret
        exact ⟨rfl, x9⟩
      · have HI := Lib.hid hI
        clear hI
        go_wp2_with fail
        refine HC.out.mono ?_
        rintro _ w' ⟨rfl, rfl⟩
        go_wp2_with fail
        refine (rf_inf s _).mono ?_
        rintro _ w' ⟨rfl, rfl⟩
        go_wp2_with fail
        go_ret
        exact ⟨ret1 (by rw [HI.out]), x9⟩
    · obtain ⟨rfl, p9, o9, rfl, kc⟩ := sl_onew t9 hX0 (by unfold W; omega)
      rcases hcase with ⟨rfl, rfl⟩ | ⟨rfl, hI⟩
      · go_wp2_with fail
        refine HC.out.mono ?_
        rintro _ w' ⟨rfl, rfl⟩
        go_wp2_with fail
        go_ret
        exact ⟨rfl, x9⟩
      · have HI := Lib.hid hI
        clear hI
        go_wp2_with fail
        refine HC.out.mono ?_
        rintro _ w' ⟨rfl, rfl⟩
        go_wp2_with fail
        refine (rf_inf s _).mono ?_
        rintro _ w' ⟨rfl, rfl⟩
        go_wp2_with fail
        go_ret
        exact ⟨ret1 (by rw [HI.out]), x9⟩
  · go_enter Tryz.func177, Tryz.ntmps177
    go_wp2_with fail
    refine HT.out.mono ?_
    rintro _ w1 ⟨A1, n1, c1, rfl, t1, b1⟩
    have hn1 : 0 < n1 := sl_pos t1 h0
    have hz1 : ((n1 : Int) == 0) = false := by simp; omega
    have l1 : n1 ≤ 200 := Nat.le_trans (t1.small hv) hn
    have HB := ref_bits t1 (by omega)
    rw [val_words, hL] at HB
    have HB := Lib.hid HB
    go_wp2_with fail
    refine HB.out.mono ?_
    rintro _ w' ⟨rfl, rfl⟩
    clear HB
    go_upto_region 9 with (fail)
    go_cut [8] (fun s8 wx => s8 = .int .i64 low ∧ w1 = wx)
    case first =>
      by_cases h1 : (L : Int) + e - 53 < -1074
      · go_wp2_with fail
        go_meet
        exact ⟨vint (by omega), rfl⟩
      · go_wp2_with fail
        go_meet
        exact ⟨vint (by omega), rfl⟩
    case rest =>
    obtain ⟨rfl, rfl⟩ := hcut
    clear hlow
    go_wp2_with fail
    with_reducible refine (HS1.out _ _ _ _ t1 l1).mono ?_
    rintro _ w2 ⟨A2, n2, c2, rfl, t2, b2⟩
    clear t2
    go_wp2_with fail
    with_reducible refine (HS2.out _ _ _ _ (t1.below b2) l1).mono ?_
    rintro _ w3 ⟨A3, n3, c3, rfl, t3, b3⟩
    have l3 : n3 ≤ 200 := Nat.le_trans (t3.small (Nat.lt_of_le_of_lt g3 Hv.out)) hn
    go_wp2_with fail
    with_reducible refine (HS3.out _ _ _ _ t3 l3).mono ?_
    rintro _ w4 ⟨A4, n4, c4, rfl, t4, b4⟩
    have l4 : n4 ≤ 200 := Nat.le_trans (t4.small (Nat.lt_of_le_of_lt g6 Hv.out)) hn
    go_wp2_with fail
    with_reducible refine (HS4.out _ _ _ _ _ _ _ (((t1.below b2).below b3).below b4) t4 l1 l4).mono ?_
    rintro _ w5 ⟨A5, n5, c5, rfl, t5, b5⟩
    have l5 : n5 ≤ 200 := Nat.le_trans (t5.small (Nat.lt_of_le_of_lt g4 Hv.out)) hn
    have S5 := ref_shl t5 (by omega) 1
    rw [val_words, show clampS 1 = 1 by decide, Nat.pow_one] at S5
    have HS5 := Lib.hid S5
    clear S5
    go_wp2_with fail
    refine HS5.out.mono ?_
    rintro _ w6 ⟨A6, n6, c6, rfl, t6, b6⟩
    have l6 : n6 ≤ n + 1 := t6.small (mul_lt_pow (m := 1) (l := 1) (Nat.lt_of_le_of_lt g4 Hv.out) (by omega))
    clear HS5
    have b7 := below_alloc w6 (.cells #[.int .u64 1] 76)
    go_wp2_with fail
    refine (HS6.out _).mono ?_
    rintro _ w8 ⟨A8, n8, c8, rfl, t8, b8⟩
    have l8 : n8 ≤ k / 64 + 1 := t8.small HG5.out
    have HC6 := ref_cmp ((t6.below b7).below b8) t8 (by omega) (by omega)
    rw [val_words, val_words] at HC6
    rw [show cmpN (r * 2) K = 0 by unfold cmpN; rw [if_neg (by omega), if_neg (by omega)]] at HC6
    have HC6 := Lib.hid HC6
    go_wp2_with fail
    refine HC6.out.mono ?_
    rintro _ w' ⟨rfl, rfl⟩
    clear HC6
    have t3 := ((((t3.below b4).below b5).below b6).below b7).below b8
    have x8 := bbw b1 (bbw b2 (bbw b3 (bbw b4 (bbw b5 (bbw b6 (bbw b7 b8))))))
    clear t1 t4 t5 t6 t8 b1 b2 b3 b4 b5 b6 b7 b8 HS1 HS2 HS3 HS4 HS6 HT
    have HBt := ref_bit t3 (by omega) 0 (by omega)
    rw [val_words, show bitN q 0 = false by unfold bitN; simp; omega] at HBt
    have HBt := Lib.hid HBt
    go_wp2_with fail
    refine HBt.out.mono ?_
    rintro _ w' ⟨rfl, rfl⟩
    clear HBt
    subst aX
    have t9 := t3
    have x9 := x8
    clear t3 x8
    obtain ⟨v9, ok, hcall, hcase⟩ := HV.out w8
    have HC := Lib.hid hcall
    clear hcall HV
    rcases Nat.eq_zero_or_pos X with hX0 | hX0
    · subst hX0
      obtain rfl := sl_zero t9
      rcases hcase with ⟨rfl, rfl⟩ | ⟨rfl, hI⟩
      · go_wp2_with fail
        refine HC.out.mono ?_
        rintro _ w' ⟨rfl, rfl⟩
        go_wp2_with fail
        go_ret
        exact ⟨rfl, x9⟩
      · have HI := Lib.hid hI
        clear hI
        go_wp2_with fail
        refine HC.out.mono ?_
        rintro _ w' ⟨rfl, rfl⟩
        go_wp2_with fail
        refine (rf_inf s _).mono ?_
        rintro _ w' ⟨rfl, rfl⟩
        go_wp2_with fail
        go_ret
        exact ⟨ret1 (by rw [HI.out]), x9⟩
    · obtain ⟨rfl, p9, o9, rfl, kc⟩ := sl_onew t9 hX0 (by unfold W; omega)
      rcases hcase with ⟨rfl, rfl⟩ | ⟨rfl, hI⟩
      · go_wp2_with fail
        refine HC.out.mono ?_
        rintro _ w' ⟨rfl, rfl⟩
        go_wp2_with fail
        go_ret
        exact ⟨rfl, x9⟩
      · have HI := Lib.hid hI
        clear hI
        go_wp2_with fail
        refine HC.out.mono ?_
        rintro _ w' ⟨rfl, rfl⟩
        go_wp2_with fail
        refine (rf_inf s _).mono ?_
        rintro _ w' ⟨rfl, rfl⟩
        go_wp2_with fail
        go_ret
        exact ⟨ret1 (by rw [HI.out]), x9⟩
  · go_enter Tryz.func177, Tryz.ntmps177
    go_wp2_with fail
    refine HT.out.mono ?_
    rintro _ w1 ⟨A1, n1, c1, rfl, t1, b1⟩
    have hn1 : 0 < n1 := sl_pos t1 h0
    have hz1 : ((n1 : Int) == 0) = false := by simp; omega
    have l1 : n1 ≤ 200 := Nat.le_trans (t1.small hv) hn
    have HB := ref_bits t1 (by omega)
    rw [val_words, hL] at HB
    have HB := Lib.hid HB
    go_wp2_with fail
    refine HB.out.mono ?_
    rintro _ w' ⟨rfl, rfl⟩
    clear HB
    go_upto_region 9 with (fail)
    go_cut [8] (fun s8 wx => s8 = .int .i64 low ∧ w1 = wx)
    case first =>
      by_cases h1 : (L : Int) + e - 53 < -1074
      · go_wp2_with fail
        go_meet
        exact ⟨vint (by omega), rfl⟩
      · go_wp2_with fail
        go_meet
        exact ⟨vint (by omega), rfl⟩
    case rest =>
    obtain ⟨rfl, rfl⟩ := hcut
    clear hlow
    go_wp2_with fail
    with_reducible refine (HS1.out _ _ _ _ t1 l1).mono ?_
    rintro _ w2 ⟨A2, n2, c2, rfl, t2, b2⟩
    clear t2
    go_wp2_with fail
    with_reducible refine (HS2.out _ _ _ _ (t1.below b2) l1).mono ?_
    rintro _ w3 ⟨A3, n3, c3, rfl, t3, b3⟩
    have l3 : n3 ≤ 200 := Nat.le_trans (t3.small (Nat.lt_of_le_of_lt g3 Hv.out)) hn
    go_wp2_with fail
    with_reducible refine (HS3.out _ _ _ _ t3 l3).mono ?_
    rintro _ w4 ⟨A4, n4, c4, rfl, t4, b4⟩
    have l4 : n4 ≤ 200 := Nat.le_trans (t4.small (Nat.lt_of_le_of_lt g6 Hv.out)) hn
    go_wp2_with fail
    with_reducible refine (HS4.out _ _ _ _ _ _ _ (((t1.below b2).below b3).below b4) t4 l1 l4).mono ?_
    rintro _ w5 ⟨A5, n5, c5, rfl, t5, b5⟩
    have l5 : n5 ≤ 200 := Nat.le_trans (t5.small (Nat.lt_of_le_of_lt g4 Hv.out)) hn
    have S5 := ref_shl t5 (by omega) 1
    rw [val_words, show clampS 1 = 1 by decide, Nat.pow_one] at S5
    have HS5 := Lib.hid S5
    clear S5
    go_wp2_with fail
    refine HS5.out.mono ?_
    rintro _ w6 ⟨A6, n6, c6, rfl, t6, b6⟩
    have l6 : n6 ≤ n + 1 := t6.small (mul_lt_pow (m := 1) (l := 1) (Nat.lt_of_le_of_lt g4 Hv.out) (by omega))
    clear HS5
    have b7 := below_alloc w6 (.cells #[.int .u64 1] 76)
    go_wp2_with fail
    refine (HS6.out _).mono ?_
    rintro _ w8 ⟨A8, n8, c8, rfl, t8, b8⟩
    have l8 : n8 ≤ k / 64 + 1 := t8.small HG5.out
    have HC6 := ref_cmp ((t6.below b7).below b8) t8 (by omega) (by omega)
    rw [val_words, val_words] at HC6
    rw [show cmpN (r * 2) K = -1 by unfold cmpN; rw [if_pos (by omega)]] at HC6
    have HC6 := Lib.hid HC6
    go_wp2_with fail
    refine HC6.out.mono ?_
    rintro _ w' ⟨rfl, rfl⟩
    clear HC6
    have t3 := ((((t3.below b4).below b5).below b6).below b7).below b8
    have x8 := bbw b1 (bbw b2 (bbw b3 (bbw b4 (bbw b5 (bbw b6 (bbw b7 b8))))))
    clear t1 t4 t5 t6 t8 b1 b2 b3 b4 b5 b6 b7 b8 HS1 HS2 HS3 HS4 HS6 HT
    subst aX
    have t9 := t3
    have x9 := x8
    clear t3 x8
    obtain ⟨v9, ok, hcall, hcase⟩ := HV.out w8
    have HC := Lib.hid hcall
    clear hcall HV
    rcases Nat.eq_zero_or_pos X with hX0 | hX0
    · subst hX0
      obtain rfl := sl_zero t9
      rcases hcase with ⟨rfl, rfl⟩ | ⟨rfl, hI⟩
      · go_wp2_with fail
        refine HC.out.mono ?_
        rintro _ w' ⟨rfl, rfl⟩
        go_wp2_with fail
        go_ret
        exact ⟨rfl, x9⟩
      · have HI := Lib.hid hI
        clear hI
        go_wp2_with fail
        refine HC.out.mono ?_
        rintro _ w' ⟨rfl, rfl⟩
        go_wp2_with fail
        refine (rf_inf s _).mono ?_
        rintro _ w' ⟨rfl, rfl⟩
        go_wp2_with fail
        go_ret
        exact ⟨ret1 (by rw [HI.out]), x9⟩
    · obtain ⟨rfl, p9, o9, rfl, kc⟩ := sl_onew t9 hX0 (by unfold W; omega)
      rcases hcase with ⟨rfl, rfl⟩ | ⟨rfl, hI⟩
      · go_wp2_with fail
        refine HC.out.mono ?_
        rintro _ w' ⟨rfl, rfl⟩
        go_wp2_with fail
        go_ret
        exact ⟨rfl, x9⟩
      · have HI := Lib.hid hI
        clear hI
        go_wp2_with fail
        refine HC.out.mono ?_
        rintro _ w' ⟨rfl, rfl⟩
        go_wp2_with fail
        refine (rf_inf s _).mono ?_
        rintro _ w' ⟨rfl, rfl⟩
        go_wp2_with fail
        go_ret
        exact ⟨ret1 (by rw [HI.out]), x9⟩

end Go.Proofs.YtibgpeaplmcogaaGreatDoor

namespace Go.Proofs.YtibgpeaplmcogaaGreatDoor
set_option maxRecDepth 100000
open Go.RowKit
set_option linter.unusedVariables false
set_option linter.unusedSimpArgs false

set_option maxHeartbeats 1000000 in
theorem rf_half {w : World} {A : Option Addr} {n c : Nat} {xs : List Int} (h : Sl w A n c xs) (hn : n ≤ 1000) :
    Calls Tryz.prog 178 #[.slice A n c] w (RetSl (words (2 * val xs + 1)) w) := by
  have S := ref_shl h (by omega) 1
  rw [show clampS 1 = 1 by decide, Nat.pow_one] at S
  have hv : val xs < W ^ n := val_lt_pow h.us (by have := h.len; omega)
  have HS := Lib.hid S
  clear S
  go_enter Tryz.func178, Tryz.ntmps178
  go_wp2_with fail
  refine HS.out.mono ?_
  rintro _ w1 ⟨A1, n1, c1, rfl, t1, b1⟩
  have l1 : n1 ≤ n + 1 := t1.small (mul_lt_pow (m := 1) (l := 1) hv (by omega))
  have t2 := t1.below (below_alloc w1 (.cells #[.int .u64 1] 76))
  have HA := ref_nadd t2 (sl_lit w1 1 U_1) (by omega) (by omega)
  rw [val_words, show val [1] = 1 by decide, Nat.mul_comm] at HA
  have HA := Lib.hid HA
  have b1b := b1.alloc b1.size (.cells #[.int .u64 1] 76)
  clear HS t1 t2 b1 hv
  go_wp2_with fail
  refine HA.out.mono ?_
  rintro _ w2 ⟨A2, n2, c2, rfl, t2, b2⟩
  go_wp2_with fail
  go_ret
  exact ⟨_, _, _, rfl, t2, bbw b1b b2⟩

/-- with a half more, or without -/
def magM (v : Nat) (e : Int) (more : Bool) : Nat := if more then magR (2 * v + 1) 1 (e - 1) else magR v 1 e
theorem magM_yes (v : Nat) (e : Int) : magM v e true = magR (2 * v + 1) 1 (e - 1) := by unfold magM; rw [if_pos rfl]
theorem magM_no (v : Nat) (e : Int) : magM v e false = magR v 1 e := by unfold magM; rw [if_neg (by decide)]
theorem more_clamp {m : Nat} {e : Int} (hb : blen m ≤ 20000) : magR m 1 (min (max e (-1099511627776)) 1099511627776) = magR m 1 e ∧ magR m 1 (min (max e (-1099511627776)) 1099511627776 - 1) = magR m 1 (e - 1) := by
  rcases Nat.eq_zero_or_pos m with rfl | h0
  · rw [magR_zero, magR_zero, magR_zero, magR_zero]; exact ⟨rfl, rfl⟩
  · have hp := blen_pos h0
    have h1 : blen 1 = 1 := by decide
    rcases Int.lt_or_le e (-1099511627776) with hl | hl
    · refine ⟨?_, ?_⟩
      · rw [magR_small (e := e) (by omega) (by rw [h1]; omega), magR_small (by omega) (by rw [h1]; omega)]
      · rw [magR_small (e := e - 1) (by omega) (by rw [h1]; omega), magR_small (by omega) (by rw [h1]; omega)]
    · rcases Int.lt_or_le 1099511627776 e with hg | hg
      · refine ⟨?_, ?_⟩
        · rw [magR_big1 (e := e) h0 (by omega), magR_big1 h0 (by omega)]
        · rw [magR_big1 (e := e - 1) h0 (by omega), magR_big1 h0 (by omega)]
      · have : min (max e (-1099511627776)) 1099511627776 = e := by omega
        rw [this]; exact ⟨rfl, rfl⟩

set_option maxHeartbeats 2000000 in
theorem rf_more (s : Bool) {w : World} {A : Option Addr} {n c : Nat} {xs : List Int} (h : Sl w A n c xs) (hn : n ≤ 190) {e : Int} (he : -9223372036854775808 ≤ e) (he2 : e ≤ 9223372036854775807) (more : Bool) :
    Calls Tryz.prog 110 #[.bool s, .slice A n c, .int .i64 e, .bool more] w (RetW (sg s (magM (val xs) e more)) w) := by
  have hv : val xs < W ^ n := val_lt_pow h.us (by have := h.len; omega)
  have hv2 := more_lt hv
  have k1 := more_clamp (m := val xs) (e := e) (Nat.le_trans (blen_pow_W hv) (by omega))
  have k2 := more_clamp (m := 2 * val xs + 1) (e := e) (Nat.le_trans (blen_pow_W hv2) (by omega))
  obtain ⟨d, hd⟩ : ∃ d, min (max e (-1099511627776)) 1099511627776 = d := ⟨_, rfl⟩
  rw [hd] at k1 k2
  have hd1 : -1099511627776 ≤ d ∧ d ≤ 1099511627776 := by omega
  have HH := Lib.hid (rf_half h (by omega))
  have HO := Lib.hid (fun w1 (b : Below w.heap.size w w1) => rf_of s (h.below b) (by omega) (e := d) (by omega) (by omega))
  rw [k1.1] at HO
  have HO2 := Lib.hid (fun (w1 : World) (A1 : Option Addr) (n1 c1 : Nat) (t1 : Sl w1 A1 n1 c1 (words (2 * val xs + 1))) (l1 : n1 ≤ n + 1) => rf_of s t1 (by omega) (e := d - 1) (by omega) (by omega))
  rw [val_words, k2.2] at HO2
  have HV2 := Lib.hid hv2
  clear k1 k2 hv hv2
  cases more
  · have hm := magM_no (val xs) e
    rw [hm]
    generalize magR (val xs) 1 e = R at *
    clear HH HO2 hm
    go_enter Tryz.func110, Tryz.ntmps110
    go_upto_region 1 with (fail)
    go_cut [2] (fun s2 wx => s2 = .int .i64 d ∧ w = wx)
    case first =>
      by_cases h1 : e < -1099511627776
      · go_wp2_with fail
        go_meet
        exact ⟨vint (by omega), rfl⟩
      · by_cases h2 : 1099511627776 < e
        · have h3 : decide (1099511627776 < e) = true := decide_eq_true h2
          go_wp2_with fail
          go_meet
          exact ⟨vint (by omega), rfl⟩
        · go_wp2_with fail
          go_meet
          exact ⟨vint (by omega), rfl⟩
    case rest =>
    obtain ⟨rfl, rfl⟩ := hcut
    clear hd
    go_wp2_with fail
    with_reducible refine (HO.out _ (Below.refl _ _)).mono ?_
    rintro _ w2 ⟨rfl, b2⟩
    go_wp2_with fail
    go_ret
    exact ⟨rfl, b2⟩
  · have hm := magM_yes (val xs) e
    rw [hm]
    generalize magR (2 * val xs + 1) 1 (e - 1) = R at *
    generalize 2 * val xs + 1 = V at *
    clear HO hm
    go_enter Tryz.func110, Tryz.ntmps110
    go_upto_region 1 with (fail)
    go_cut [2] (fun s2 wx => s2 = .int .i64 d ∧ w = wx)
    case first =>
      by_cases h1 : e < -1099511627776
      · go_wp2_with fail
        go_meet
        exact ⟨vint (by omega), rfl⟩
      · by_cases h2 : 1099511627776 < e
        · have h3 : decide (1099511627776 < e) = true := decide_eq_true h2
          go_wp2_with fail
          go_meet
          exact ⟨vint (by omega), rfl⟩
        · go_wp2_with fail
          go_meet
          exact ⟨vint (by omega), rfl⟩
    case rest =>
    obtain ⟨rfl, rfl⟩ := hcut
    clear hd
    go_wp2_with fail
    with_reducible refine HH.out.mono ?_
    rintro _ w1 ⟨A1, n1, c1, rfl, t1, b1⟩
    have l1 : n1 ≤ n + 1 := t1.small HV2.out
    go_wp2_with fail
    with_reducible refine (HO2.out _ _ _ _ t1 l1).mono ?_
    rintro _ w2 ⟨rfl, b2⟩
    go_wp2_with fail
    go_ret
    exact ⟨rfl, bbw b1 b2⟩

end Go.Proofs.YtibgpeaplmcogaaGreatDoor

namespace Go.Proofs.YtibgpeaplmcogaaGreatDoor
set_option maxRecDepth 100000
open Go.RowKit
set_option linter.unusedVariables false
set_option linter.unusedSimpArgs false

/-- a significand whose highest bit is that of the word, and its exponent -/
def fsg (b : Nat) : Nat := sig b * 2 ^ (64 - blen (sig b))
def fxp (b : Nat) : Int := xpo b - ((64 - blen (sig b) : Nat) : Int)
theorem sig_blen (b : Nat) : blen (sig b) ≤ 53 := blen_le (by have := sig_lt b; omega)
theorem fsg_lt (b : Nat) : fsg b < 18446744073709551616 := by
  have h1 := blen_lt (sig b)
  have h2 := sig_blen b
  unfold fsg
  have h3 : sig b * 2 ^ (64 - blen (sig b)) < 2 ^ blen (sig b) * 2 ^ (64 - blen (sig b)) := Nat.mul_lt_mul_of_pos_right h1 (Nat.two_pow_pos _)
  rw [← Nat.pow_add, show blen (sig b) + (64 - blen (sig b)) = 64 by omega] at h3
  exact h3
theorem fsg_ge {b : Nat} (h : 0 < sig b) : 9223372036854775808 ≤ fsg b := by
  have h1 := blen_self h
  have h0 := blen_pos h
  have h2 := sig_blen b
  unfold fsg
  have h3 : 2 ^ (blen (sig b) - 1) * 2 ^ (64 - blen (sig b)) ≤ sig b * 2 ^ (64 - blen (sig b)) := Nat.mul_le_mul_right _ h1
  rw [← Nat.pow_add, show blen (sig b) - 1 + (64 - blen (sig b)) = 63 by omega] at h3
  exact h3
theorem fsg_half (b : Nat) : fsg b % 2 = 0 ∧ fsg b / 2 = sig b * 2 ^ (63 - blen (sig b)) := by
  have h2 := sig_blen b
  have e : fsg b = sig b * 2 ^ (63 - blen (sig b)) * 2 := by
    unfold fsg
    rw [show 64 - blen (sig b) = 63 - blen (sig b) + 1 by omega, Nat.pow_succ, Nat.mul_assoc]
  rw [e]
  omega
/-- a finite double that is not 0 has a significand -/
theorem sig_pos {b : Nat} (h : kd b = 1 ∨ kd b = 2) : 0 < sig b := by
  unfold kd at h
  unfold sig
  split at h
  · split at h <;> omega
  · split at h
    · rename_i h1
      rw [if_pos h1]
      split at h
      · omega
      · omega
    · rename_i h1
      rw [if_neg h1]; omega
/-! ### products -/
theorem mul_round (a b : Nat) : magR (mkd (fsg a * fsg b / 18446744073709551616) (decide (fsg a * fsg b % 18446744073709551616 ≠ 0))) 1 (fxp a + fxp b + 64) = magR (sig a * sig b) 1 (xpo a + xpo b) := by
  rw [mkd_round _ (by omega)]
  · have h1 := sig_blen a
    have h2 := sig_blen b
    refine magR_eq (a := 64) (b := (64 - blen (sig a)) + (64 - blen (sig b))) (by omega) (by omega) ?_ (by unfold fxp; omega)
    unfold fsg
    rw [show (18446744073709551616 : Nat) = 2 ^ 64 by decide, Nat.pow_add]
    grind
  · intro hr
    have p1 : 0 < sig a := by
      rcases Nat.eq_zero_or_pos (sig a) with h | h
      · exfalso; apply hr; unfold fsg; rw [h, Nat.zero_mul, Nat.zero_mul]
      · exact h
    have p2 : 0 < sig b := by
      rcases Nat.eq_zero_or_pos (sig b) with h | h
      · exfalso; apply hr; unfold fsg; rw [h, Nat.zero_mul, Nat.mul_zero]
      · exact h
    have h3 := Nat.mul_le_mul (fsg_ge p1) (fsg_ge p2)
    refine blen_ge (k := 54) ?_
    rw [Nat.le_div_iff_mul_le (by omega)]
    generalize fsg a * fsg b = z at *
    omega
/-! ### quotients -/
theorem div_round {a b : Nat} (pa : 0 < sig a) (pb : 0 < sig b) : magR (mkd (fsg a / 2 * 18446744073709551616 / fsg b) (decide (fsg a / 2 * 18446744073709551616 % fsg b ≠ 0))) 1 (fxp a - fxp b + 1 - 64) = magR (sig a) (sig b) (xpo a - xpo b) := by
  have g1 := fsg_ge pa
  have g2 := fsg_ge pb
  have l2 := fsg_lt b
  rw [mkd_round _ (by omega)]
  · have h1 := sig_blen a
    have h2 := sig_blen b
    refine magR_eq (a := 64 - blen (sig b)) (b := (64 - blen (sig a)) + 63) (by omega) pb ?_ (by unfold fxp; omega)
    rw [(fsg_half a).2]
    unfold fsg
    obtain ⟨n, hn⟩ : ∃ n, 64 - blen (sig a) = n + 1 := ⟨63 - blen (sig a), by omega⟩
    rw [hn, show 63 - blen (sig a) = n by omega, show (18446744073709551616 : Nat) = 2 ^ 64 by decide, show n + 1 + 63 = n + 64 by omega, Nat.pow_add 2 n 64]
    grind
  · intro hr
    refine blen_ge (k := 54) ?_
    rw [Nat.le_div_iff_mul_le (by omega)]
    omega
theorem magM_div {P Q : Nat} (e : Int) (hQ : 0 < Q) (hb : 54 ≤ blen (P / Q)) : magM (P / Q) e (decide (0 < P % Q)) = magR P Q e := by
  by_cases h : P % Q = 0
  · rw [decide_eq_false (by omega), magM_no]; exact mark_exact e hQ h
  · rw [decide_eq_true (by omega), magM_yes, ← magR_two, magR_sticky e hQ h hb]
/-- the document's quotient: both significands of 53 bits -/
theorem refdiv_round {a b i j : Nat} (pa : 0 < sig a) (pb : 0 < sig b) (ha : B52 ≤ sig a * 2 ^ i) (hb : sig b * 2 ^ j < 2 * B52) :
    magM (sig a * 2 ^ i * 1024 * 18446744073709551616 / (sig b * 2 ^ j * 2048)) (xpo a - i - (xpo b - j) - 63) (decide (0 < sig a * 2 ^ i * 1024 * 18446744073709551616 % (sig b * 2 ^ j * 2048))) = magR (sig a) (sig b) (xpo a - xpo b) := by
  have hp : 0 < sig b * 2 ^ j := Nat.mul_pos pb (Nat.two_pow_pos _)
  rw [magM_div _ (by omega)]
  · refine magR_eq (a := j) (b := i + 63) (by omega) pb ?_ (by omega)
    rw [show (18446744073709551616 : Nat) = 2 ^ 63 * 2 by decide, Nat.pow_add]
    grind
  · refine blen_ge (k := 53) ?_
    rw [Nat.le_div_iff_mul_le (by omega)]
    rw [B52_eq] at ha hb
    omega
/-! ### roots -/
/-- the double nearest to the root of N, times 2^e -/
def rtM (N : Nat) (e : Int) : Nat := magM (rt N) e (decide (rt N * rt N ≠ N))
theorem rtM_of {N r : Nat} (e : Int) (h1 : r * r ≤ N) (h2 : N < (r + 1) * (r + 1)) : rtM N e = magM r e (decide (r * r ≠ N)) := by
  unfold rtM; rw [rt_unique h1 h2]
theorem magM_mkd {r : Nat} (e : Int) (more : Bool) (hb : 55 ≤ blen r) : magR (mkd r more) 1 e = magM r e more := by
  cases more
  · rw [mkd_no, magM_no]
  · rw [mkd_yes, magM_yes, ← magR_two]
    have h1 : (2 * r + 1) / 2 = r := by omega
    have := mark_sticky (P := 2 * r + 1) (Q := 2) e (by omega) (by omega) (by rw [h1]; exact hb)
    rw [h1] at this
    exact this
theorem rt_scale_alg {N k r R : Nat} (h1 : r * r ≤ N) (h2 : N < (r + 1) * (r + 1)) (g1 : R * R ≤ N * (2 ^ k * 2 ^ k)) (g2 : N * (2 ^ k * 2 ^ k) < (R + 1) * (R + 1)) : r * 2 ^ k ≤ R ∧ R < (r + 1) * 2 ^ k := by
  have hp := Nat.two_pow_pos k
  generalize 2 ^ k = K at *
  constructor
  · rcases Nat.lt_or_ge R (r * K) with h | h
    · exfalso
      have a1 : (R + 1) * (R + 1) ≤ r * K * (r * K) := Nat.mul_le_mul h h
      have a2 : r * K * (r * K) = r * r * (K * K) := by grind
      have a3 : r * r * (K * K) ≤ N * (K * K) := Nat.mul_le_mul_right _ h1
      omega
    · exact h
  · rcases Nat.lt_or_ge R ((r + 1) * K) with h | h
    · exact h
    · exfalso
      have a1 : (r + 1) * K * ((r + 1) * K) ≤ R * R := Nat.mul_le_mul h h
      have a2 : (r + 1) * K * ((r + 1) * K) = (r + 1) * (r + 1) * (K * K) := by grind
      have a3 : N * (K * K) < (r + 1) * (r + 1) * (K * K) := Nat.mul_lt_mul_of_pos_right h2 (Nat.mul_pos hp hp)
      omega
theorem rtM_scale (N k : Nat) (e : Int) (hb : 54 ≤ blen (rt N)) : rtM (N * 2 ^ (2 * k)) (e - k) = rtM N e := by
  have hp := Nat.two_pow_pos k
  obtain ⟨h1, h2⟩ := rt_spec N
  obtain ⟨g1, g2⟩ := rt_spec (N * 2 ^ (2 * k))
  unfold rtM
  have e2 : N * 2 ^ (2 * k) = N * (2 ^ k * 2 ^ k) := by rw [← Nat.pow_add]; congr 2; omega
  rw [e2] at g1 g2 ⊢
  generalize rt (N * (2 ^ k * 2 ^ k)) = R at *
  generalize rt N = r at *
  obtain ⟨c1, c2⟩ := rt_scale_alg h1 h2 g1 g2
  by_cases hx : r * r = N
  · -- the root is exact
    have hR : R = r * 2 ^ k := by
      rcases Nat.eq_or_lt_of_le c1 with h | h
      · exact h.symm
      · exfalso
        have a1 : (r * 2 ^ k + 1) * (r * 2 ^ k + 1) ≤ R * R := Nat.mul_le_mul h h
        have a2 : r * 2 ^ k * (r * 2 ^ k) = N * (2 ^ k * 2 ^ k) := by rw [← hx]; grind
        have := sq_succ (r * 2 ^ k)
        omega
    have hRR : R * R = N * (2 ^ k * 2 ^ k) := by rw [hR, ← hx]; grind
    rw [decide_eq_false (by omega), decide_eq_false (by omega), magM_no, magM_no, hR, magR_shift _ _ _ (by omega)]
    congr 1
    omega
  · -- something is left
    rw [decide_eq_true (show r * r ≠ N from hx), magM_yes, ← magR_two]
    have hm : magM R (e - k) (decide (R * R ≠ N * (2 ^ k * 2 ^ k))) = magR (2 * R + (if R * R = N * (2 ^ k * 2 ^ k) then 0 else 1)) (2 ^ (k + 1)) e := by
      by_cases hy : R * R = N * (2 ^ k * 2 ^ k)
      · rw [if_pos hy, decide_eq_false (by omega), magM_no]
        exact magR_eq (a := 0) (b := k) (by omega) (Nat.two_pow_pos _) (by rw [Nat.pow_succ]; grind) (by omega)
      · rw [if_neg hy, decide_eq_true hy, magM_yes]
        exact magR_eq (a := 0) (b := k + 1) (by omega) (Nat.two_pow_pos _) (by grind) (by omega)
    rw [hm]
    obtain ⟨t, ht⟩ : ∃ t, R = r * 2 ^ k + t := ⟨R - r * 2 ^ k, by omega⟩
    have ht2 : t < 2 ^ k := by rw [Nat.add_mul, Nat.one_mul] at c2; omega
    have hs : (if R * R = N * (2 ^ k * 2 ^ k) then 0 else 1) ≤ 1 := by split <;> omega
    have ht3 : R * R = N * (2 ^ k * 2 ^ k) → 0 < t := by
      intro hy
      rcases Nat.eq_zero_or_pos t with h | h
      · exfalso
        subst h
        rw [ht, Nat.add_zero] at hy
        have : r * r * (2 ^ k * 2 ^ k) = N * (2 ^ k * 2 ^ k) := by rw [← hy]; grind
        exact hx (Nat.eq_of_mul_eq_mul_right (Nat.mul_pos hp hp) this)
      · exact h
    have hs2 : 0 < t ∨ (if R * R = N * (2 ^ k * 2 ^ k) then 0 else 1) = 1 := by
      by_cases hy : R * R = N * (2 ^ k * 2 ^ k)
      · exact .inl (ht3 hy)
      · exact .inr (by rw [if_neg hy])
    generalize (if R * R = N * (2 ^ k * 2 ^ k) then 0 else 1) = s at *
    have eP : 2 * R + s = (2 * t + s) + r * 2 ^ (k + 1) := by rw [ht, Nat.pow_succ]; grind
    have eQ : 2 ^ (k + 1) = 2 * 2 ^ k := by rw [Nat.pow_succ]; omega
    have d1 : (2 * R + s) / 2 ^ (k + 1) = r := by rw [eP, Nat.add_mul_div_right _ _ (Nat.two_pow_pos _), Nat.div_eq_of_lt (by omega)]; omega
    have d2 : (2 * R + s) % 2 ^ (k + 1) ≠ 0 := by rw [eP, Nat.add_mul_mod_self_right, Nat.mod_eq_of_lt (by omega)]; omega
    have := magR_sticky (p := 2 * R + s) (q := 2 ^ (k + 1)) e (Nat.two_pow_pos _) d2 (by rw [d1]; exact hb)
    rw [this, d1]
/-- how many zeros the document appends -/
def upz (b : Nat) : Nat := if xpo b % 2 = 0 then 160 else 161
def fsqM (b : Nat) : Nat := rtM (sig b * 2 ^ upz b) ((xpo b - upz b) / 2)
/-- the program's: a word of 63 bits or more, its exponent even -/
def rtw (b : Nat) : Nat := if fxp b % 2 = 0 then fsg b else fsg b / 2
def rtx (b : Nat) : Int := if fxp b % 2 = 0 then fxp b else fxp b + 1
theorem rtw_ge {b : Nat} (pb : 0 < sig b) : 4611686018427387904 ≤ rtw b ∧ rtw b < 18446744073709551616 := by
  have h1 := fsg_ge pb
  have h2 := fsg_lt b
  unfold rtw
  split <;> omega
theorem rt_blen {m r : Nat} (h1 : 4611686018427387904 ≤ m) (h3 : m * 281474976710656 < (r + 1) * (r + 1)) : 55 ≤ blen r := by
  refine blen_ge (k := 54) ?_
  rcases Nat.lt_or_ge r (2 ^ 54) with h | h
  · exfalso
    have : (r + 1) * (r + 1) ≤ 2 ^ 54 * 2 ^ 54 := Nat.mul_le_mul h h
    omega
  · exact h
theorem root_round {b : Nat} (pb : 0 < sig b) : rtM (rtw b * 281474976710656) (rtx b / 2 - 24) = fsqM b := by
  obtain ⟨q1, q2⟩ := rtw_ge pb
  have hb : 54 ≤ blen (rt (rtw b * 281474976710656)) := by
    have := rt_blen q1 (rt_spec (rtw b * 281474976710656)).2
    omega
  have hbl := sig_blen b
  have hb1 := blen_pos pb
  unfold fsqM
  obtain ⟨o, ho, eo1, eo2⟩ : ∃ o : Nat, o ≤ 1 ∧ rtw b = sig b * 2 ^ (64 - blen (sig b) - o) ∧ rtx b = xpo b - ((64 - blen (sig b) : Nat) : Int) + o ∧ rtx b % 2 = 0 := by
    by_cases h : fxp b % 2 = 0
    · refine ⟨0, by omega, ?_, ?_, ?_⟩
      · unfold rtw; rw [if_pos h]; rfl
      · unfold rtx; rw [if_pos h]; unfold fxp; omega
      · unfold rtx; rw [if_pos h]; exact h
    · refine ⟨1, by omega, ?_, ?_, ?_⟩
      · unfold rtw; rw [if_neg h, (fsg_half b).2]; congr 2; omega
      · unfold rtx; rw [if_neg h]; unfold fxp; omega
      · unfold rtx; rw [if_neg h]; omega
  obtain ⟨u, hu, hu2⟩ : ∃ u, upz b = u ∧ (xpo b - (u : Int)) % 2 = 0 ∧ (u = 160 ∨ u = 161) := by
    unfold upz
    split
    · exact ⟨160, rfl, by omega, .inl rfl⟩
    · exact ⟨161, rfl, by omega, .inr rfl⟩
  rw [hu]
  obtain ⟨k, hk⟩ : ∃ k : Nat, u = (64 - blen (sig b) - o) + 48 + 2 * k := ⟨(u - ((64 - blen (sig b) - o) + 48)) / 2, by omega⟩
  have e1 : sig b * 2 ^ u = rtw b * 281474976710656 * 2 ^ (2 * k) := by
    rw [eo1, hk, Nat.pow_add, Nat.pow_add, show (2 : Nat) ^ 48 = 281474976710656 by decide]
    grind
  rw [e1, ← rtM_scale _ k _ hb]
  congr 1
  omega
/-! ### the whole -/
def fmul (a b : Nat) : Nat :=
  if kd a = 4 ∨ kd b = 4 ∨ (kd a = 3 ∧ kd b = 0) ∨ (kd a = 0 ∧ kd b = 3) then NAN else if kd a = 3 ∨ kd b = 3 then sg (ng a != ng b) INF else sg (ng a != ng b) (magR (sig a * sig b) 1 (xpo a + xpo b))
def fdiv (a b : Nat) : Nat :=
  if kd a = 4 ∨ kd b = 4 ∨ (kd a = 3 ∧ kd b = 3) ∨ (kd a = 0 ∧ kd b = 0) then NAN else if kd a = 3 ∨ kd b = 0 then sg (ng a != ng b) INF else if kd a = 0 ∨ kd b = 3 then sg (ng a != ng b) 0 else sg (ng a != ng b) (magR (sig a) (sig b) (xpo a - xpo b))
def fsqrt (b : Nat) : Nat :=
  if kd b = 0 then b else if kd b = 4 ∨ ng b = true then NAN else if kd b = 3 then b else fsqM b

end Go.Proofs.YtibgpeaplmcogaaGreatDoor

namespace Go.Proofs.YtibgpeaplmcogaaGreatDoor
set_option maxRecDepth 100000
open Go.RowKit
set_option linter.unusedVariables false
set_option linter.unusedSimpArgs false

theorem fb_partsY {b : Nat} (hb : b < 18446744073709551616) (h : fld b < 2047) (w : World) :
    Calls Tryz.prog 214 #[.int .u64 b] w fun e w' => e = .returned (.tuple #[.bool (ng b), .int .u64 (sig b), .int .i64 (xpo b), .bool true]) ∧ w = w' := by
  have := fb_parts hb w
  rw [if_pos h] at this
  exact this
theorem fb_partsN {b : Nat} (hb : b < 18446744073709551616) (h : ¬ fld b < 2047) (w : World) :
    Calls Tryz.prog 214 #[.int .u64 b] w fun e w' => e = .returned (.tuple #[.bool false, .int .u64 0, .int .i64 0, .bool false]) ∧ w = w' := by
  have := fb_parts hb w
  rw [if_neg h] at this
  exact this

end Go.Proofs.YtibgpeaplmcogaaGreatDoor
