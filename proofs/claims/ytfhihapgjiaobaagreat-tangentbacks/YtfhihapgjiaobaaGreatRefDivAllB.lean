/-
  What gcd.Gcd, gcd.Reduce, gcd.Lcm and gcd.Coprime do, told by Nat.gcd. Conditions: the slices read as lists of words, of at most 100000 words.
-/
import Derived.Test.YtfhihapgjiaobaaGreatRefProdAllB
import Derived.Test.YtfhihapgjiaobaaGreatNatMathOneB
import Derived.Test.YtfhihapgjiaobaaGreatQuotMathAllB
namespace Go.Proofs.YtfhihapgjiaobaaGreat
set_option maxRecDepth 100000
open Go.RowKit
set_option linter.unusedVariables false
set_option linter.unusedSimpArgs false

/-! ### a quotient bit by bit: plain -/
theorem bit_step (a k : Nat) : a / 2 ^ k = 2 * (a / 2 ^ (k + 1)) + a / 2 ^ k % 2 := by
  rw [Nat.pow_succ, ← Nat.div_div_eq_div_mul]; omega
theorem rdiv_yes {a b k : Nat} (hb : 0 < b) (h : b ≤ 2 * (a / 2 ^ (k + 1) % b) + a / 2 ^ k % 2) :
    2 * (a / 2 ^ (k + 1) % b) + a / 2 ^ k % 2 - b = a / 2 ^ k % b ∧ a / 2 ^ (k + 1) / b * 2 ^ (k + 1) + 2 ^ k = a / 2 ^ k / b * 2 ^ k := by
  have hs := bit_step a k
  have h1 := Nat.div_add_mod (a / 2 ^ (k + 1)) b
  have h2 := Nat.mod_lt (a / 2 ^ (k + 1)) hb
  have h3 : a / 2 ^ k % 2 < 2 := Nat.mod_lt _ (by omega)
  generalize a / 2 ^ k % 2 = t at *
  generalize a / 2 ^ (k + 1) = A1 at *
  generalize A1 % b = r at *
  generalize A1 / b = q at *
  have e : a / 2 ^ k = b * (2 * q + 1) + (2 * r + t - b) := by
    have e1 : b * (2 * q + 1) = 2 * (b * q) + b := by grind
    rw [hs, ← h1, e1]
    omega
  have hlt : 2 * r + t - b < b := by omega
  rw [e, Nat.mul_add_mod, Nat.mod_eq_of_lt hlt, Nat.mul_add_div hb, Nat.div_eq_of_lt hlt]
  refine ⟨rfl, ?_⟩
  rw [Nat.pow_succ]
  grind
theorem rdiv_no {a b k : Nat} (hb : 0 < b) (h : 2 * (a / 2 ^ (k + 1) % b) + a / 2 ^ k % 2 < b) :
    2 * (a / 2 ^ (k + 1) % b) + a / 2 ^ k % 2 = a / 2 ^ k % b ∧ a / 2 ^ (k + 1) / b * 2 ^ (k + 1) = a / 2 ^ k / b * 2 ^ k := by
  have hs := bit_step a k
  have h1 := Nat.div_add_mod (a / 2 ^ (k + 1)) b
  generalize a / 2 ^ k % 2 = t at *
  generalize a / 2 ^ (k + 1) = A1 at *
  generalize A1 % b = r at *
  generalize A1 / b = q at *
  have e : a / 2 ^ k = b * (2 * q) + (2 * r + t) := by
    have e1 : b * (2 * q) = 2 * (b * q) := by grind
    rw [hs, ← h1, e1]
    omega
  rw [e, Nat.mul_add_mod, Nat.mod_eq_of_lt h, Nat.mul_add_div hb, Nat.div_eq_of_lt h]
  refine ⟨rfl, ?_⟩
  rw [Nat.pow_succ]
  grind
theorem qbit_free (Q k : Nat) : Q * 2 ^ (k + 1) / 2 ^ k % 2 = 0 := by
  rw [Nat.pow_succ, Nat.mul_comm (2 ^ k) 2, ← Nat.mul_assoc, Nat.mul_div_cancel _ (Nat.two_pow_pos k)]
  omega
theorem from_start {a b f : Nat} (hb : 0 < b) (h : blen a + 1 ≤ f + blen b) : a / 2 ^ f < b := by
  have h1 := blen_lt a
  have h2 := blen_self hb
  have h3 := blen_pos hb
  rw [Nat.div_lt_iff_lt_mul (Nat.two_pow_pos f)]
  refine Nat.lt_of_lt_of_le h1 ?_
  refine Nat.le_trans (Nat.pow_le_pow_right (by omega) (show blen a ≤ blen b - 1 + f by omega)) ?_
  rw [Nat.pow_add]
  exact Nat.mul_le_mul_right _ h2

set_option maxRecDepth 100000 in
set_option maxHeartbeats 4000000 in
theorem ref_div_long {w : World} {A A' : Option Addr} {n n' c c' : Nat} {xs ys : List Int} (h : Sl w A n c xs) (h' : Sl w A' n' c' ys) (hn : n ≤ 90000) (hn' : n' ≤ 90000) (h0 : 0 < val ys) (h1 : ¬ (sz xs = 1 ∧ sz ys = 1)) :
    Calls Tryz.prog 109 #[.slice A n c, .slice A' n' c'] w (RetQR (val xs / val ys) (val xs % val ys) w) := by
  have Z1 := ref_size h (by omega)
  have Z2 := ref_size h' (by omega)
  have B1 := ref_bits h (by omega)
  have B2 := ref_bits h' (by omega)
  have bl1 := blen_val_le h
  have bl2 := blen_val_le h'
  have vb : val ys < W ^ n' := val_lt_pow h'.us (by have := h'.len; omega)
  have hsz : sz xs ≤ n := by rw [h.len]; exact sz_le xs
  have hsz' : sz ys ≤ n' := by rw [h'.len]; exact sz_le ys
  have hfr := fun f => from_start (a := val xs) (f := f) h0
  obtain ⟨La, hLa⟩ : ∃ L, blen (val xs) = L := ⟨_, rfl⟩
  obtain ⟨Lb, hLb⟩ : ∃ L, blen (val ys) = L := ⟨_, rfl⟩
  rw [hLa] at B1 bl1 hfr
  rw [hLb] at B2 bl2 hfr
  obtain ⟨f, hf⟩ : ∃ f, La + 1 - Lb = f := ⟨_, rfl⟩
  have hff := hfr f (by omega)
  have hf64 : f ≤ 5760001 := by omega
  have SHR := ref_shr h (by omega) (f : Int) (by omega)
  rw [Int.toNat_natCast] at SHR
  have BIT := fun w1 (hb : Below w.heap.size w w1) (k : Nat) (hk : k ≤ 5760001) => ref_bit (h.below hb) (by omega) (k : Int) (by omega)
  have CMP := fun w1 (hb : Below w.heap.size w w1) (B : Option Addr) (nb cb : Nat) (zs : List Int) (s : Sl w1 B nb cb zs) (hnb : nb ≤ 90010) => ref_cmp s (h'.below hb) (by omega) (by omega)
  have SUB := fun w1 (hb : Below w.heap.size w w1) (B : Option Addr) (nb cb : Nat) (zs : List Int) (s : Sl w1 B nb cb zs) (hnb : nb ≤ 90010) (hle : val ys ≤ val zs) => ref_nsub s (h'.below hb) (by omega) (by omega) hle
  generalize val xs = a at *
  generalize val ys = b at *
  obtain ⟨p, hp⟩ : ∃ p, sz xs = p := ⟨_, rfl⟩
  obtain ⟨q, hq⟩ : ∃ q, sz ys = q := ⟨_, rfl⟩
  rw [hp] at Z1 h1 hsz
  rw [hq] at Z2 h1 hsz'
  have HZ1 := Lib.hid Z1
  have HZ2 := Lib.hid Z2
  have HB1 := Lib.hid B1
  have HB2 := Lib.hid B2
  have HFF := Lib.hid hff
  have HF := Lib.hid hf
  have HSHR := Lib.hid SHR
  have HBIT := Lib.hid BIT
  have HCMP := Lib.hid CMP
  have HSUB := Lib.hid SUB
  have HVB := Lib.hid vb
  have HB0 := Lib.hid h0
  clear Z1 Z2 B1 B2 hff hf SHR BIT CMP SUB vb hfr hLa hLb hp hq h0
  go_enter Tryz.func109, Tryz.ntmps109
  go_upto_region 2 with (fail)
  go_cut [18] (fun s18 wx => s18 = .bool false ∧ w = wx)
  case first =>
    by_cases hp1 : p = 1
    · subst hp1
      have hq1 : ((q : Int) == 1) = false := by simp; omega
      go_wp2_with fail
      refine HZ1.out.mono ?_
      rintro e w' ⟨rfl, rfl⟩
      go_wp2_with fail
      refine HZ2.out.mono ?_
      rintro e w' ⟨rfl, rfl⟩
      go_wp2_with fail
      go_meet
      exact ⟨rfl, rfl⟩
    · have hp2 : ((p : Int) == 1) = false := by simp; omega
      go_wp2_with fail
      refine HZ1.out.mono ?_
      rintro e w' ⟨rfl, rfl⟩
      go_wp2_with fail
      go_meet
      exact ⟨rfl, rfl⟩
  case rest =>
    obtain ⟨rfl, rfl⟩ := hcut
    clear HZ1 HZ2 h1 hsz hsz'
    go_upto_region 4 with (fail)
    go_wp2_with fail
    refine HB1.out.mono ?_
    rintro e w' ⟨rfl, rfl⟩
    go_upto_region 5 with (fail)
    go_cut [9] (fun s9 wx => s9 = .int .i64 f ∧ w = wx)
    case first =>
      by_cases hlt : Lb ≤ La + 1
      · have hlt' : ¬ ((La : Int) - (Lb : Int) + 1 < 0) := by omega
        go_wp2_with fail
        refine HB2.out.mono ?_
        rintro e w' ⟨rfl, rfl⟩
        go_wp2_with fail
        all_goals
          go_meet
          exact ⟨vint (by have := HF.out; omega), rfl⟩
      · have hlt' : (La : Int) - (Lb : Int) + 1 < 0 := by omega
        go_wp2_with fail
        refine HB2.out.mono ?_
        rintro e w' ⟨rfl, rfl⟩
        go_wp2_with fail
        all_goals
          go_meet
          exact ⟨vint (by have := HF.out; omega), rfl⟩
    case rest =>
      obtain ⟨rfl, rfl⟩ := hcut
      clear HB1 HB2
      go_wp2_with fail
      refine HSHR.out.mono ?_
      rintro e w1 ⟨A1, n1, c1, rfl, s1, b1⟩
      go_wp2_with fail
      go_loopw [6, 7, 10] (fun qv rv iv wr => ∃ (k : Nat) (j : Int) (Bq : Option Addr) (nq cq : Nat) (qs : List Int) (Br : Option Addr) (nr cr : Nat) (rs : List Int), k ≤ f ∧ j + 1 ≤ k ∧ (k : Int) ≤ j + 1 ∧ iv = .int .i64 j ∧ qv = .slice Bq nq cq ∧ rv = .slice Br nr cr ∧ nq ≤ f / 64 + 1 ∧ nr ≤ n' + 2 ∧ Sl wr Bq nq cq qs ∧ Sl wr Br nr cr rs ∧ Hid (val qs = a / 2 ^ k / b * 2 ^ k) ∧ Hid (val rs = a / 2 ^ k % b) ∧ Below w.heap.size w wr) (fun _ _ iv _ => (intOf iv + 1).toNat)
      case atStart =>
        refine ⟨f, _, none, 0, 0, [], A1, n1, c1, _, by omega, by omega, by omega, rfl, rfl, rfl, by omega, ?_, Sl.nil _ _ _, s1, Lib.hid ?_, Lib.hid ?_, b1⟩
        · have := s1.small (k := n') (Nat.lt_trans HFF.out HVB.out); omega
        · rw [Nat.div_eq_of_lt HFF.out]; simp [val, valB]
        · rw [val_words, Nat.mod_eq_of_lt HFF.out]
      case round =>
        clear s1 b1 HFF HSHR
        obtain ⟨k, j, Bq, nq, cq, qs, Br, nr, cr, rs, hk, hj1, hj2, rfl, rfl, rfl, hnq, hnr, sq, sr, HQ, HR, hb⟩ := hrel
        by_cases hk0 : k = 0
        · subst hk0
          obtain rfl : j = -1 := by omega
          have hq9 : val qs = a / b := by rw [HQ.out]; simp
          have hr9 : val rs = a % b := by rw [HR.out]; simp
          have T1 := ref_trim sq (by omega)
          rw [hq9] at T1
          have HT1 := Lib.hid T1
          have HR9 := Lib.hid hr9
          clear T1 hq9 hr9
          go_wp2_with fail
          refine HT1.out.mono ?_
          rintro e w7 ⟨A7, n7, c7, rfl, s7, b7⟩
          have T2 := ref_trim (sr.below b7) (by omega)
          rw [HR9.out] at T2
          have HT2 := Lib.hid T2
          clear T2 HT1
          go_wp2_with fail
          refine HT2.out.mono ?_
          rintro e w8 ⟨A8, n8, c8, rfl, s8, b8⟩
          have hb7 := hb.trans (b7.mono hb.size)
          go_wp2_with fail
          go_ret2
          exact ⟨_, _, _, _, _, _, rfl, s7.below b8, s8, hb7.trans (b8.mono hb7.size)⟩
        · obtain ⟨i, rfl⟩ : ∃ i, k = i + 1 := ⟨k - 1, by omega⟩
          obtain rfl : j = (i : Int) := by omega
          have hrb := Nat.mod_lt (a / 2 ^ (i + 1)) HB0.out
          have hyes := rdiv_yes (a := a) (k := i) HB0.out
          have hno := rdiv_no (a := a) (k := i) HB0.out
          have hqf := qbit_free (a / 2 ^ (i + 1) / b) i
          have SL := ref_shl sr (by omega) 1
          rw [clampS_mid (by omega) (by omega), show (1 : Int).toNat = 1 from rfl, Nat.pow_one, HR.out] at SL
          rw [← HQ.out] at hyes hno hqf
          have hif : i / 64 + 1 ≤ f / 64 + 1 := by omega
          obtain ⟨t, ht⟩ : ∃ t, a / 2 ^ i % 2 = t := ⟨_, rfl⟩
          have ht2 : t < 2 := by rw [← ht]; exact Nat.mod_lt _ (by omega)
          have htb := fun w1 hb => HBIT.out w1 hb i (by omega)
          rw [bitN_nat, ht] at htb
          rw [ht] at hyes hno
          generalize a / 2 ^ (i + 1) % b = r1 at *
          have HSL := Lib.hid SL
          have HYES := Lib.hid hyes
          have HNO := Lib.hid hno
          have HQF := Lib.hid hqf
          have HTB := Lib.hid htb
          have HRB := Lib.hid hrb
          clear SL hyes hno hqf htb hrb ht sr
          go_wp2_with fail
          refine HSL.out.mono ?_
          rintro e w2 ⟨A2, n2, c2, rfl, s2, b2⟩
          have hb2 := hb.trans (b2.mono hb.size)
          have sq2 := sq.below b2
          have hr2W : r1 * 2 + 1 < W ^ (n' + 1) := by
            have hv := HVB.out
            have hr := HRB.out
            have : W ^ n' * 2 ≤ W ^ n' * W := Nat.mul_le_mul_left _ two_le_W
            rw [Nat.pow_succ]
            omega
          have hn2 : n2 ≤ n' + 1 := s2.small (Nat.lt_of_le_of_lt (by omega) hr2W)
          clear sq b2 HSL hb hr2W
          have TB := HTB.out _ hb2
          rcases (show t = 0 ∨ t = 1 by omega) with rfl | rfl
          · rw [decide_eq_false (by omega)] at TB
            have HT := Lib.hid TB
            clear TB HTB
            go_wp2_with fail
            refine HT.out.mono ?_
            rintro e w' ⟨rfl, rfl⟩
            obtain ⟨zs, ez⟩ : ∃ zs, words (r1 * 2) = zs := ⟨_, rfl⟩
            have hvz : val zs = 2 * r1 + 0 := by rw [← ez, val_words]; omega
            rw [ez] at s2
            have HVZ := Lib.hid hvz
            clear ez hvz HT
            have CC := HCMP.out _ hb2 _ _ _ _ s2 (by omega)
            rw [HVZ.out] at CC
            by_cases hle : b ≤ 2 * r1 + 0
            · have hcm : 0 ≤ cmpN (2 * r1 + 0) b := by have := cmpN_neg (2 * r1 + 0) b; omega
              obtain ⟨y1, y2⟩ := HYES.out hle
              have SB := HSUB.out _ hb2 _ _ _ _ s2 (by omega) (by rw [HVZ.out]; exact hle)
              rw [HVZ.out, y1] at SB
              generalize cmpN (2 * r1 + 0) b = cm at CC hcm
              have HC := Lib.hid CC
              have HSB := Lib.hid SB
              have Y1 := Lib.hid y1
              have Y2 := Lib.hid y2
              clear CC SB y1 y2 hle HYES HNO
              go_wp2_with fail
              refine HC.out.mono ?_
              rintro e w' ⟨rfl, rfl⟩
              go_wp2_with fail
              refine HSB.out.mono ?_
              rintro e w4 ⟨A4, n4, c4, rfl, s4, b4⟩
              have hb4 := (hb2).trans (b4.mono (hb2).size)
              have hn4 : n4 ≤ n' + 2 := Nat.le_trans (s4.small (k := n') (Nat.lt_trans (Nat.mod_lt _ HB0.out) HVB.out)) (by omega)
              have SQ := ref_set ((sq2).below b4) (by omega) i (by omega) HQF.out (f / 64 + 1) hnq hif
              have HSQ := Lib.hid SQ
              clear SQ HSB HC
              go_wp2_with fail
              refine HSQ.out.mono ?_
              rintro e w5 ⟨A5, n5, c5, qs5, rfl, hn5, s5, v5, b5⟩
              have HV5 := Lib.hid (v5.trans Y2.out)
              have s45 := s4.below b5
              have hb5 := hb4.trans (b5.mono hb4.size)
              clear v5 HSQ s4 b5
              go_wp2_with fail
              go_roundw
              case rel => exact ⟨i, _, A5, n5, c5, qs5, A4, n4, c4, _, by omega, by omega, by omega, rfl, rfl, rfl, hn5, hn4, s5, s45, HV5, Lib.hid (by rw [val_words]), hb5⟩
              case measure => simp [intOf]
            · rw [cmpN_lt (by omega)] at CC
              obtain ⟨y1, y2⟩ := HNO.out (by omega)
              have HC := Lib.hid CC
              have Y1 := Lib.hid (HVZ.out.trans y1)
              have Y2 := Lib.hid y2
              clear CC y1 y2 hle HYES HNO
              go_wp2_with fail
              refine HC.out.mono ?_
              rintro e w' ⟨rfl, rfl⟩
              go_wp2_with fail
              go_roundw
              case rel => exact ⟨i, _, Bq, nq, cq, qs, A2, n2, c2, zs, by omega, by omega, by omega, rfl, rfl, rfl, hnq, by omega, sq2, s2, Y2, Y1, hb2⟩
              case measure => simp [intOf]
          · rw [decide_eq_true rfl] at TB
            have HT := Lib.hid TB
            have ST := ref_set s2 (by omega) 0 (by omega) (by rw [val_words]; simp) (n' + 2) (by omega) (by omega)
            have HSE := Lib.hid ST
            clear TB HTB ST
            go_wp2_with fail
            refine HT.out.mono ?_
            rintro e w' ⟨rfl, rfl⟩
            go_wp2_with fail
            refine HSE.out.mono ?_
            rintro e w3 ⟨A3, n3, c3, zs, rfl, hn3, s3, hv3, b3⟩
            have hvz : val zs = 2 * r1 + 1 := by rw [hv3, val_words]; simp; omega
            have HVZ := Lib.hid hvz
            have hb3 := hb2.trans (b3.mono hb2.size)
            have sq3 := sq2.below b3
            clear hv3 hvz HSE HT b3 s2 sq2
            have CC := HCMP.out _ hb3 _ _ _ _ s3 (by omega)
            rw [HVZ.out] at CC
            by_cases hle : b ≤ 2 * r1 + 1
            · have hcm : 0 ≤ cmpN (2 * r1 + 1) b := by have := cmpN_neg (2 * r1 + 1) b; omega
              obtain ⟨y1, y2⟩ := HYES.out hle
              have SB := HSUB.out _ hb3 _ _ _ _ s3 (by omega) (by rw [HVZ.out]; exact hle)
              rw [HVZ.out, y1] at SB
              generalize cmpN (2 * r1 + 1) b = cm at CC hcm
              have HC := Lib.hid CC
              have HSB := Lib.hid SB
              have Y1 := Lib.hid y1
              have Y2 := Lib.hid y2
              clear CC SB y1 y2 hle HYES HNO
              go_wp2_with fail
              refine HC.out.mono ?_
              rintro e w' ⟨rfl, rfl⟩
              go_wp2_with fail
              refine HSB.out.mono ?_
              rintro e w4 ⟨A4, n4, c4, rfl, s4, b4⟩
              have hb4 := (hb3).trans (b4.mono (hb3).size)
              have hn4 : n4 ≤ n' + 2 := Nat.le_trans (s4.small (k := n') (Nat.lt_trans (Nat.mod_lt _ HB0.out) HVB.out)) (by omega)
              have SQ := ref_set ((sq3).below b4) (by omega) i (by omega) HQF.out (f / 64 + 1) hnq hif
              have HSQ := Lib.hid SQ
              clear SQ HSB HC
              go_wp2_with fail
              refine HSQ.out.mono ?_
              rintro e w5 ⟨A5, n5, c5, qs5, rfl, hn5, s5, v5, b5⟩
              have HV5 := Lib.hid (v5.trans Y2.out)
              have s45 := s4.below b5
              have hb5 := hb4.trans (b5.mono hb4.size)
              clear v5 HSQ s4 b5
              go_wp2_with fail
              go_roundw
              case rel => exact ⟨i, _, A5, n5, c5, qs5, A4, n4, c4, _, by omega, by omega, by omega, rfl, rfl, rfl, hn5, hn4, s5, s45, HV5, Lib.hid (by rw [val_words]), hb5⟩
              case measure => simp [intOf]
            · rw [cmpN_lt (by omega)] at CC
              obtain ⟨y1, y2⟩ := HNO.out (by omega)
              have HC := Lib.hid CC
              have Y1 := Lib.hid (HVZ.out.trans y1)
              have Y2 := Lib.hid y2
              clear CC y1 y2 hle HYES HNO
              go_wp2_with fail
              refine HC.out.mono ?_
              rintro e w' ⟨rfl, rfl⟩
              go_wp2_with fail
              go_roundw
              case rel => exact ⟨i, _, Bq, nq, cq, qs, A3, n3, c3, zs, by omega, by omega, by omega, rfl, rfl, rfl, hnq, by omega, sq3, s3, Y2, Y1, hb3⟩
              case measure => simp [intOf]

end Go.Proofs.YtfhihapgjiaobaaGreat

namespace Go.Proofs.YtfhihapgjiaobaaGreat
set_option maxRecDepth 100000
open Go.RowKit
set_option linter.unusedVariables false
set_option linter.unusedSimpArgs false

set_option maxRecDepth 100000 in
set_option maxHeartbeats 4000000 in
theorem ref_div_short {w : World} {A A' : Option Addr} {n n' c c' : Nat} {xs ys : List Int} (h : Sl w A n c xs) (h' : Sl w A' n' c' ys) (hn : n ≤ 90000) (hn' : n' ≤ 90000) (h1 : sz xs = 1) (h2 : sz ys = 1) :
    Calls Tryz.prog 109 #[.slice A n c, .slice A' n' c'] w (RetQR (val xs / val ys) (val xs % val ys) w) := by
  have Z1 := ref_size h (by omega)
  have Z2 := ref_size h' (by omega)
  rw [h1] at Z1
  rw [h2] at Z2
  have hsz : sz xs ≤ n := by rw [h.len]; exact sz_le xs
  have hsz' : sz ys ≤ n' := by rw [h'.len]; exact sz_le ys
  have hv1 := val_short (Dg_U h.us) (by omega)
  have hv2 := val_short (Dg_U h'.us) (by omega)
  have ux := h.u 0
  have uy := h'.u 0
  have hy0 : ys.getD 0 0 ≠ 0 := by have := sz_last ys (by omega); rw [h2] at this; exact this
  obtain ⟨b, off, rfl, hlt, hc⟩ := h.at_ (k := 0) (by omega)
  obtain ⟨b', off', rfl, hlt', hc'⟩ := h'.at_ (k := 0) (by omega)
  have g1 : w.cell? ⟨b, off, none⟩ = some (.int .u64 (xs.getD 0 0)) := hc 0 (by omega)
  have g2 : w.cell? ⟨b', off', none⟩ = some (.int .u64 (ys.getD 0 0)) := hc' 0 (by omega)
  have hn1 : 0 < n := by omega
  have hn2 : 0 < n' := by omega
  rw [hv1, hv2]
  generalize xs.getD 0 0 = x at *
  generalize ys.getD 0 0 = y at *
  have hx0 : 0 ≤ x := ux.1
  have hyp : 0 < y := by have := uy.1; omega
  have hyf : (y == 0) = false := by simpa using hy0
  have uq : U (x / y) := by
    obtain ⟨X, rfl⟩ := Int.eq_ofNat_of_zero_le hx0
    obtain ⟨Y, rfl⟩ := Int.eq_ofNat_of_zero_le uy.1
    have := Nat.div_le_self X Y
    have hX : X < 18446744073709551616 := by have := ux.2; omega
    rw [← Int.natCast_ediv]
    generalize X / Y = Q at *
    exact U_nat (by omega)
  have ur : U (x % y) := by
    have h1 := Int.emod_nonneg x (show y ≠ 0 by omega)
    have h2 := Int.emod_lt_of_pos x hyp
    unfold U at *
    omega
  have eq : (x / y).toNat = x.toNat / y.toNat := by
    obtain ⟨X, rfl⟩ := Int.eq_ofNat_of_zero_le hx0
    obtain ⟨Y, rfl⟩ := Int.eq_ofNat_of_zero_le uy.1
    rw [← Int.natCast_ediv]; rfl
  have er : (x % y).toNat = x.toNat % y.toNat := by
    obtain ⟨X, rfl⟩ := Int.eq_ofNat_of_zero_le hx0
    obtain ⟨Y, rfl⟩ := Int.eq_ofNat_of_zero_le uy.1
    rw [← Int.natCast_emod]; rfl
  rw [← eq, ← er]
  have T : ∀ (z : Int) (_ : U z) (W1 : World) (A1 : Option Addr) (_ : Sl W1 A1 1 1 [z]), Calls Tryz.prog 103 #[.slice A1 1 1] W1 (RetSl (words z.toNat) W1) := fun z hz W1 A1 hs => by
    have := ref_trim hs (by omega)
    rw [val_one] at this
    exact this
  have HZ1 := Lib.hid Z1
  have HZ2 := Lib.hid Z2
  have HT := Lib.hid T
  have hwq : IntKind.u64.wrap (x / y) = x / y := by rw [wrapU_lo, lo_U uq]
  have hwm : IntKind.u64.wrap (x % y) = x % y := by rw [wrapU_lo, lo_U ur]
  have hdx : x.tdiv y = x / y := Int.tdiv_eq_ediv_of_nonneg hx0
  have hmx : x.tmod y = x % y := Int.tmod_eq_emod_of_nonneg hx0
  clear Z1 Z2 T hc hc' hv1 hv2 h1 h2 hsz hsz' h h' eq er
  go_enter Tryz.func109, Tryz.ntmps109
  go_wp2_with fail
  refine HZ1.out.mono ?_
  rintro e w' ⟨rfl, rfl⟩
  go_wp2_with fail
  refine HZ2.out.mono ?_
  rintro e w' ⟨rfl, rfl⟩
  go_wp2_with fail
  have HS : Hid (∀ w', Below w.heap.size w w' → w'.cell? ⟨b, off, none⟩ = some (.int .u64 x) ∧ w'.cell? ⟨b', off', none⟩ = some (.int .u64 y)) := fun w' hb => ⟨(hb.cell (p := ⟨b, off, none⟩) hlt).trans g1, (hb.cell (p := ⟨b', off', none⟩) hlt').trans g2⟩
  clear HZ1 HZ2 g1 g2
  have hq1 : (w.alloc (.cells #[.int .u64 (x / y)] 76)).heap.size = w.heap.size + 1 := by simp
  have hr1 : (w.alloc (.cells #[.int .u64 (x % y)] 76)).heap.size = w.heap.size + 1 := by simp
  have sB2 := sl_lit (w.alloc (.cells #[.int .u64 (x / y)] 76)) (x % y) ur
  rw [hq1] at sB2
  have sC1 := sl_lit (w.alloc (.cells #[.int .u64 (x % y)] 76)) (x / y) uq
  rw [hr1] at sC1
  have SA := Lib.hid (sl_lit w (x / y) uq)
  have SB1 := Lib.hid ((sl_lit w (x / y) uq).below (below_alloc (w.alloc (.cells #[.int .u64 (x / y)] 76)) (.cells #[.int .u64 (x % y)] 76)))
  have SB2 := Lib.hid sB2
  have SC1 := Lib.hid sC1
  have SC2 := Lib.hid ((sl_lit w (x % y) ur).below (below_alloc (w.alloc (.cells #[.int .u64 (x % y)] 76)) (.cells #[.int .u64 (x / y)] 76)))
  have YA := Lib.hid (below_alloc w (.cells #[.int .u64 (x / y)] 76))
  have YC := Lib.hid (below_alloc w (.cells #[.int .u64 (x % y)] 76))
  have YB := Lib.hid ((below_alloc w (.cells #[.int .u64 (x / y)] 76)).alloc (by simp) (.cells #[.int .u64 (x % y)] 76))
  have YD := Lib.hid ((below_alloc w (.cells #[.int .u64 (x % y)] 76)).alloc (by simp) (.cells #[.int .u64 (x / y)] 76))
  clear hq1 hr1 sB2 sC1
  go_region_held3 (fun w' => w'.cell? ⟨b, off, none⟩ = some (.int .u64 x) ∧ w'.cell? ⟨b', off', none⟩ = some (.int .u64 y)) (first | exact HS.out _ (Below.refl w.heap.size w).drew | exact HS.out _ YA.out.drew | exact HS.out _ YB.out.drew | exact HS.out _ YC.out.drew | exact HS.out _ YD.out.drew | exact HS.out _ x2 | exact HS.out _ x1 | exact HS.out _ (x1.alloc x1.size _) | fail)
    (first
      | (go_at_call 103; (with_reducible refine (HT.out (x / y) uq _ _ ?hs1).mono ?_); (case hs1 => first | exact SA.out | exact SB1.out | exact SC1.out); rintro e w1 ⟨A1, n1, c1, rfl, t1, b1⟩; have x1 : Below w.heap.size w w1 := (by first | exact YA.out.trans ((Below.undrew b1).mono YA.out.size) | exact YB.out.trans ((Below.undrew b1).mono YB.out.size) | exact YD.out.trans ((Below.undrew b1).mono YD.out.size)))
      | (go_at_call 103; (with_reducible refine (HT.out (x % y) ur _ _ ?hs2).mono ?_); (case hs2 => first | exact sl_lit w1 (x % y) ur | exact SB2.out.below (Below.undrew b1) | exact SC2.out.below (Below.undrew b1)); rintro e w2 ⟨A2, n2, c2, rfl, t2, b2⟩; have x12 : Below w1.heap.size w1 w2 := (by first | exact b2 | exact (below_alloc w1 _).trans (b2.mono (by simp))); have x2 : Below w.heap.size w w2 := x1.trans (x12.mono x1.size)))
  all_goals
    go_wp2_with fail
    go_ret2
    exact ⟨_, _, _, _, _, _, rfl, t1.below x12, t2, x2⟩

theorem ref_div {w : World} {A A' : Option Addr} {n n' c c' : Nat} {xs ys : List Int} (h : Sl w A n c xs) (h' : Sl w A' n' c' ys) (hn : n ≤ 90000) (hn' : n' ≤ 90000) (h0 : 0 < val ys) :
    Calls Tryz.prog 109 #[.slice A n c, .slice A' n' c'] w (RetQR (val xs / val ys) (val xs % val ys) w) := by
  by_cases h1 : sz xs = 1 ∧ sz ys = 1
  · exact ref_div_short h h' hn hn' h1.1 h1.2
  · exact ref_div_long h h' hn hn' h0 h1

end Go.Proofs.YtfhihapgjiaobaaGreat

namespace Go.Proofs.YtfhihapgjiaobaaGreat
set_option maxRecDepth 100000
set_option linter.unusedVariables false

theorem odd_part (v : Nat) (h : v ≠ 0) : ∃ k o, v = 2 ^ k * o ∧ o % 2 = 1 := by
  induction v using Nat.strongRecOn with
  | ind v ih =>
    by_cases h1 : v % 2 = 1
    · exact ⟨0, v, by simp, h1⟩
    · obtain ⟨k, o, e, ho⟩ := ih (v / 2) (by omega) (by omega)
      refine ⟨k + 1, o, ?_, ho⟩
      have e2 : v = 2 * (v / 2) := by omega
      rw [e2, e, Nat.pow_succ, Nat.mul_comm (2 ^ k) 2, Nat.mul_assoc]
theorem tz_of {v k o : Nat} (e : v = 2 ^ k * o) (ho : o % 2 = 1) : tz v = k := by
  refine tz_unique (fun j hj => ?_) ?_
  · have e2 : v = 2 ^ j * (2 * (2 ^ (k - j - 1) * o)) := by
      rw [e, ← Nat.mul_assoc, ← Nat.mul_assoc, ← Nat.pow_succ, ← Nat.pow_add]
      congr 2
      omega
    rw [e2, Nat.mul_div_cancel_left _ (Nat.two_pow_pos j)]
    omega
  · rw [e, Nat.mul_div_cancel_left _ (Nat.two_pow_pos k)]
    exact ho
/-- a number without its factors 2 -/
def odd (v : Nat) : Nat := v / 2 ^ tz v
theorem odd_eq {v : Nat} (h : v ≠ 0) : v = 2 ^ tz v * odd v ∧ odd v % 2 = 1 := by
  obtain ⟨k, o, e, ho⟩ := odd_part v h
  have e2 := tz_of e ho
  have e3 : odd v = o := by
    unfold odd
    rw [e2]
    conv => lhs; rw [e]
    exact Nat.mul_div_cancel_left _ (Nat.two_pow_pos k)
  rw [e2, e3]
  exact ⟨e, ho⟩
theorem odd_le (v : Nat) : odd v ≤ v := Nat.div_le_self _ _
theorem coprime_two {y : Nat} (h : y % 2 = 1) : Nat.Coprime 2 y := by
  unfold Nat.Coprime
  rw [Nat.gcd_rec, h]
  rfl
theorem gcd_pow_odd (k o : Nat) {y : Nat} (h : y % 2 = 1) : Nat.gcd (2 ^ k * o) y = Nat.gcd o y :=
  Nat.Coprime.gcd_mul_left_cancel o (Nat.Coprime.pow_left k (coprime_two h))
theorem gcd_odd_left {x y : Nat} (hx : x ≠ 0) (h : y % 2 = 1) : Nat.gcd (odd x) y = Nat.gcd x y := by
  conv => rhs; rw [(odd_eq hx).1]
  rw [gcd_pow_odd _ _ h]
theorem gcd_start_le {a b : Nat} (ha : a ≠ 0) (hb : b ≠ 0) (h : tz a ≤ tz b) : Nat.gcd a b = Nat.gcd (odd a) (odd b) * 2 ^ tz a := by
  have ea := (odd_eq ha).1
  have eb : b = 2 ^ tz a * (2 ^ (tz b - tz a) * odd b) := by
    conv => lhs; rw [(odd_eq hb).1]
    rw [← Nat.mul_assoc, ← Nat.pow_add]
    congr 2
    omega
  have e : Nat.gcd a b = Nat.gcd (2 ^ tz a * odd a) (2 ^ tz a * (2 ^ (tz b - tz a) * odd b)) := by rw [← ea, ← eb]
  rw [e, Nat.gcd_mul_left, Nat.gcd_comm (odd a), gcd_pow_odd _ _ (odd_eq ha).2, Nat.gcd_comm (odd b), Nat.mul_comm]
theorem gcd_start {a b : Nat} (ha : a ≠ 0) (hb : b ≠ 0) : Nat.gcd a b = Nat.gcd (odd a) (odd b) * 2 ^ min (tz a) (tz b) := by
  rcases Nat.le_total (tz a) (tz b) with h | h
  · rw [Nat.min_eq_left h]; exact gcd_start_le ha hb h
  · rw [Nat.min_eq_right h, Nat.gcd_comm a b, Nat.gcd_comm (odd a)]; exact gcd_start_le hb ha h
/-- a round of halving and taking away -/
theorem gcd_round {x y : Nat} (hx : x % 2 = 1) (hy : y % 2 = 1) (h : y < x) : Nat.gcd (odd (x - y)) y = Nat.gcd x y ∧ odd (x - y) % 2 = 1 ∧ odd (x - y) < x := by
  have h0 : x - y ≠ 0 := by omega
  refine ⟨?_, (odd_eq h0).2, ?_⟩
  · rw [gcd_odd_left h0 hy, Nat.gcd_sub_self_left (by omega)]
  · have := odd_le (x - y); omega
theorem tz_lt {v k : Nat} (h : v < 2 ^ k) (hk : 0 < k) : tz v < k := by
  by_cases h0 : v = 0
  · subst h0; rw [tz_zero]; exact hk
  · have e := (odd_eq h0)
    have ho : 0 < odd v := by have := e.2; omega
    have : 2 ^ tz v ≤ v := by
      conv => rhs; rw [e.1]
      exact Nat.le_mul_of_pos_right _ ho
    exact (Nat.pow_lt_pow_iff_right (by omega)).1 (Nat.lt_of_le_of_lt this h)
/-- Euclid's step -/
theorem gcd_step (a b : Nat) : Nat.gcd b (a % b) = Nat.gcd a b := by
  rw [Nat.gcd_comm b, Nat.gcd_comm a, ← Nat.gcd_rec]
theorem gcd_lt {a b B : Nat} (ha : a < B) (hb : b < B) : Nat.gcd a b < B := by
  rcases Nat.eq_zero_or_pos a with h | h
  · subst h; rw [Nat.gcd_zero_left]; exact hb
  · exact Nat.lt_of_le_of_lt (Nat.gcd_le_left b h) ha
end Go.Proofs.YtfhihapgjiaobaaGreat

namespace Go.Proofs.YtfhihapgjiaobaaGreat
set_option maxRecDepth 100000
open Go.RowKit
set_option linter.unusedVariables false
set_option linter.unusedSimpArgs false

theorem mesV_val {w : World} {A : Option Addr} {n c : Nat} {xs : List Int} (h : Sl w A n c xs) : mesV (.slice A n c) w = val xs := by
  rcases Nat.eq_zero_or_pos n with h0 | h0
  · subst h0
    have e : xs = [] := List.eq_nil_of_length_eq_zero h.len.symm
    subst e
    unfold mesV
    split
    · rename_i b off n' c' heq
      injection heq with _ e2
      subst e2
      rfl
    · rfl
  · obtain ⟨b, off, rfl, _, hc⟩ := h.at_ (k := 0) h0
    show val (readAt w b off n) = val xs
    have e : readAt w b off n = xs := by
      unfold readAt
      apply List.ext_getElem
      · rw [List.length_map, List.length_range]; exact h.len
      · intro j h1 h2
        have hj : j < n := by simpa using h1
        simp only [List.getElem_map, List.getElem_range]
        rw [hc j hj]
        simp [cellInt, List.getD_eq_getElem?_getD, List.getElem?_eq_getElem h2]
    rw [e]

/-- Euclid's steps on words -/
def GW (G : Nat) (d r : Int) : Prop := U d ∧ U r ∧ Nat.gcd d.toNat r.toNat = G
theorem GW.step {G : Nat} {d r : Int} (h : GW G d r) (h0 : r ≠ 0) : GW G r (d.tmod r) ∧ (d.tmod r).toNat < r.toNat := by
  obtain ⟨hd, hr, hg⟩ := h
  rw [Int.tmod_eq_emod_of_nonneg hd.1]
  have hd' := hd
  have hr' := hr
  unfold U at hd hr
  have p : 0 < r := by omega
  have h1 := Int.emod_nonneg d h0
  have h2 := Int.emod_lt_of_pos d p
  have h3 : (d % r).toNat = d.toNat % r.toNat := Int.toNat_emod hd.1 hr.1
  refine ⟨⟨hr', ?_, ?_⟩, ?_⟩
  · show U (d % r); unfold U; omega
  · show Nat.gcd r.toNat (d % r).toNat = G
    rw [h3, gcd_step]; exact hg
  · show (d % r).toNat < r.toNat
    omega
theorem GW.end_ {G : Nat} {d : Int} (h : GW G d 0) : d.toNat = G := by
  have := h.2.2
  simpa using this

set_option maxHeartbeats 1000000 in
theorem gcd_word {w : World} {A : Option Addr} {n c : Nat} {xs : List Int} (h : Sl w A n c xs) (hn : n ≤ 1000000) (d : Int) (hd : U d) :
    Calls Tryz.prog 111 #[.slice A n c, .int .u64 d] w (RetSl (words (Nat.gcd (val xs) d.toNat)) w) := by
  by_cases hd0 : d = 0
  · subst hd0
    have T := nat_trim h (by omega)
    rw [show (0 : Int).toNat = 0 from rfl, Nat.gcd_zero_right]
    have HT := Lib.hid T
    clear T
    go_enter Tryz.func111, Tryz.ntmps111
    go_wp2_with fail
    refine (quot_word_zero _ _ _ _).mono ?_
    rintro e w' ⟨rfl, rfl⟩
    go_wp2_with fail
    refine HT.out.mono ?_
    rintro e w1 ⟨A1, n1, c1, rfl, s1, b1⟩
    go_wp2_with fail
    go_ret
    exact ⟨_, _, _, rfl, s1, b1⟩
  · have hp : 0 < d := by unfold U at hd; omega
    have QW := quot_word h (by omega) d hd hp
    have hlt : val xs % d.toNat < d.toNat := Nat.mod_lt _ (by omega)
    have hgw : GW (Nat.gcd (val xs) d.toNat) d ((val xs % d.toNat : Nat) : Int) := ⟨hd, by unfold U at hd ⊢; omega, by rw [Int.toNat_natCast, gcd_step]⟩
    generalize Nat.gcd (val xs) d.toNat = G at *
    generalize val xs / d.toNat = q at *
    generalize ((val xs % d.toNat : Nat) : Int) = r0 at *
    have HQ := Lib.hid QW
    have HG := Lib.hid hgw
    clear QW hgw hlt hp
    go_enter Tryz.func111, Tryz.ntmps111
    go_wp2_with fail
    refine HQ.out.mono ?_
    rintro e w1 ⟨A1, n1, c1, rfl, s1, b1⟩
    clear s1 HQ
    go_wp2_with fail
    go_loopw [1, 6] (fun dv rv wr => ∃ (d r : Int), dv = .int .u64 d ∧ rv = .int .u64 r ∧ Hid (GW G d r) ∧ Below w.heap.size w wr) (fun _ rv _ => (intOf rv).toNat)
    case atStart => exact ⟨_, _, rfl, rfl, HG, b1⟩
    case round =>
      clear HG b1
      obtain ⟨d, r, rfl, rfl, HG, hb⟩ := hrel
      by_cases hr : r = 0
      · subst hr
        have OF := fun w => nat_of d HG.out.1 w
        rw [HG.out.end_] at OF
        have HOF := Lib.hid OF
        clear OF
        go_wp2_with fail
        refine (HOF.out _).mono ?_
        rintro e w2 ⟨A2, n2, c2, rfl, s2, b2⟩
        go_wp2_with fail
        go_ret
        exact ⟨_, _, _, rfl, s2, hb.trans (b2.mono hb.size)⟩
      · have hne : (r == 0) = false := by simp [hr]
        obtain ⟨hs1, hs2⟩ := HG.out.step hr
        have HS1 := Lib.hid hs1
        have HS2 := Lib.hid hs2
        clear hs1 hs2
        go_wp2_with fail
        go_region
        go_wp2_with fail
        go_roundw
        case rel => exact ⟨_, _, rfl, rfl, HS1, hb.drew⟩
        case measure => exact HS2.out

set_option maxHeartbeats 1000000 in
theorem gcd_gcd {w : World} {A A' : Option Addr} {n n' c c' N : Nat} {xs ys : List Int} (h : Sl w A n c xs) (h' : Sl w A' n' c' ys) (hn : n ≤ N) (hn' : n' ≤ N) (hN : N ≤ 1000000) :
    Calls Tryz.prog 84 #[.slice A n c, .slice A' n' c'] w (RetSl (words (Nat.gcd (val xs) (val ys))) w) := by
  obtain ⟨G, hG⟩ : ∃ G, Nat.gcd (val xs) (val ys) = G := ⟨_, rfl⟩
  rw [hG]
  have HG := Lib.hid hG
  clear hG
  go_enter Tryz.func84, Tryz.ntmps84
  go_wp2_with fail
  go_loopw [0, 1] (fun av bv wr => ∃ (A A' : Option Addr) (n n' c c' : Nat) (xs ys : List Int), av = .slice A n c ∧ bv = .slice A' n' c' ∧ Sl wr A n c xs ∧ Sl wr A' n' c' ys ∧ n ≤ N ∧ n' ≤ N ∧ Hid (Nat.gcd (val xs) (val ys) = G) ∧ Below w.heap.size w wr) (fun _ bv wr => mesV bv wr)
  case atStart => exact ⟨_, _, _, _, _, _, xs, ys, rfl, rfl, h, h', hn, hn', HG, Below.refl _ _⟩
  case round =>
    clear h h' hn hn' HG
    obtain ⟨A, A', n, n', c, c', xs, ys, rfl, rfl, h, h', hn, hn', HG, hb⟩ := hrel
    have NW := nat_word h' (by omega)
    by_cases hs : sz ys ≤ 1
    · have hv := val_short (Dg_U h'.us) hs
      have hw1 : word1 ys = ys.getD 0 0 := by unfold word1; rw [if_neg (by omega)]
      rw [hw1, decide_eq_true hs] at NW
      have GWD := gcd_word h (by omega) (ys.getD 0 0) (h'.u 0)
      rw [← hv, HG.out] at GWD
      generalize ys.getD 0 0 = d at *
      have HNW := Lib.hid NW
      have HGW := Lib.hid GWD
      clear NW GWD hv hw1 hs
      go_wp2_with fail
      refine HNW.out.mono ?_
      rintro e w' ⟨rfl, rfl⟩
      go_wp2_with fail
      refine HGW.out.mono ?_
      rintro e w1 ⟨A1, n1, c1, rfl, s1, b1⟩
      go_wp2_with fail
      go_ret
      exact ⟨_, _, _, rfl, s1, hb.trans (b1.mono hb.size)⟩
    · rw [decide_eq_false hs] at NW
      obtain ⟨_, hp⟩ := val_long (Dg_U h'.us) (by omega)
      have QD := quot_div h h' (by omega) (by omega) hp
      have hlt := Nat.mod_lt (val xs) hp
      have hvy : val ys < W ^ N := val_lt_pow h'.us (by have := h'.len; omega)
      have hst := gcd_step (val xs) (val ys)
      rw [HG.out] at hst
      have hm := mesV_val h'
      generalize word1 ys = d at *
      generalize val xs / val ys = q at *
      generalize val xs % val ys = r at *
      have HNW := Lib.hid NW
      have HQD := Lib.hid QD
      have HLT := Lib.hid hlt
      have HVY := Lib.hid hvy
      have HST := Lib.hid hst
      have HM := Lib.hid hm
      have HH' := Lib.hid h'
      clear NW QD hlt hvy hst hm hs hp h' h
      go_wp2_with fail
      refine HNW.out.mono ?_
      rintro e w' ⟨rfl, rfl⟩
      go_wp2_with fail
      refine HQD.out.mono ?_
      rintro e w1 ⟨A1, n1, c1, A2, n2, c2, rfl, s1, s2, b1⟩
      have l2 : n2 ≤ N := s2.small (Nat.lt_trans HLT.out HVY.out)
      have hm2 := mesV_val s2
      rw [val_words] at hm2
      have HM2 := Lib.hid hm2
      have h2 := HH'.out.below b1
      have hb1 := hb.trans (b1.mono hb.size)
      clear s1 b1 hm2
      go_wp2_with fail
      go_roundw
      case rel => exact ⟨_, _, _, _, _, _, ys, words r, rfl, rfl, h2, s2, hn', l2, Lib.hid (by rw [val_words]; exact HST.out), hb1⟩
      case measure => rw [HM2.out, HM.out]; exact HLT.out

/-- quot.Div whatever the divisor: in Nat, too, a number by 0 is 0 -/
theorem quot_div_any {w : World} {A A' : Option Addr} {n n' c c' : Nat} {xs ys : List Int} (h : Sl w A n c xs) (h' : Sl w A' n' c' ys) (hn : n ≤ 1000000) (hn' : n' ≤ 1000000) :
    Calls Tryz.prog 85 #[.slice A n c, .slice A' n' c'] w fun e w' => ∃ r ok, RetDiv (val xs / val ys) r ok w e w' := by
  rcases Nat.eq_zero_or_pos (val ys) with h0 | h0
  · refine (quot_div_zero (A := A) (n := n) (c := c) h' hn' h0).mono fun e w' H => ⟨0, false, ?_⟩
    rw [h0, Nat.div_zero]
    exact H
  · exact (quot_div h h' hn hn' h0).mono fun e w' H => ⟨_, _, H⟩

set_option maxHeartbeats 1000000 in
theorem gcd_reduce {w : World} {A A' : Option Addr} {n n' c c' N : Nat} {xs ys : List Int} (h : Sl w A n c xs) (h' : Sl w A' n' c' ys) (hn : n ≤ N) (hn' : n' ≤ N) (hN : N ≤ 1000000) :
    Calls Tryz.prog 46 #[.slice A n c, .slice A' n' c'] w (RetQR (val xs / Nat.gcd (val xs) (val ys)) (val ys / Nat.gcd (val xs) (val ys)) w) := by
  have va : val xs < W ^ N := val_lt_pow h.us (by have := h.len; omega)
  have vb : val ys < W ^ N := val_lt_pow h'.us (by have := h'.len; omega)
  have vg := gcd_lt va vb
  have GG := gcd_gcd h h' hn hn' hN
  have D1 := fun w1 (hb : Below w.heap.size w w1) (B : Option Addr) (nb cb X : Nat) (s : Sl w1 B nb cb (words X)) (hnb : nb ≤ N) => quot_div_any (h.below hb) s (by omega) (by omega)
  have D2 := fun w1 (hb : Below w.heap.size w w1) (B : Option Addr) (nb cb X : Nat) (s : Sl w1 B nb cb (words X)) (hnb : nb ≤ N) => quot_div_any (h'.below hb) s (by omega) (by omega)
  generalize Nat.gcd (val xs) (val ys) = g at *
  have HG := Lib.hid GG
  have HD1 := Lib.hid D1
  have HD2 := Lib.hid D2
  have HV := Lib.hid vg
  clear GG D1 D2 va vb vg h h'
  go_enter Tryz.func46, Tryz.ntmps46
  go_wp2_with fail
  refine HG.out.mono ?_
  rintro e w1 ⟨A1, n1, c1, rfl, s1, b1⟩
  have l1 : n1 ≤ N := s1.small HV.out
  have S1 := HD1.out w1 b1 A1 n1 c1 g s1 l1
  have H1 := Lib.hid S1
  clear S1
  go_wp2_with fail
  refine H1.out.mono ?_
  rintro e w2 ⟨r2, o2, A2, n2, c2, A3, n3, c3, rfl, s2, s3, b2⟩
  have hb2 := b1.trans (b2.mono b1.size)
  have S2 := HD2.out w2 hb2 A1 n1 c1 g (s1.below b2) l1
  have H2 := Lib.hid S2
  clear S2 s3 H1 s1
  go_wp2_with fail
  refine H2.out.mono ?_
  rintro e w4 ⟨r4, o4, A4, n4, c4, A5, n5, c5, rfl, s4, s5, b4⟩
  rw [val_words] at s2 s4
  have s2' := s2.below b4
  have hb4 := hb2.trans (b4.mono hb2.size)
  clear s5 H2 s2
  go_wp2_with fail
  go_ret2
  exact ⟨_, _, _, _, _, _, rfl, s2', s4, hb4⟩

theorem cmpN_zero (a b : Nat) : (cmpN a b == 0) = decide (a = b) := by
  unfold cmpN
  split
  · rw [decide_eq_false (by omega)]; rfl
  · split
    · rw [decide_eq_false (by omega)]; rfl
    · rw [decide_eq_true (by omega)]; rfl
set_option maxHeartbeats 1000000 in
theorem gcd_coprime {w : World} {A A' : Option Addr} {n n' c c' N : Nat} {xs ys : List Int} (h : Sl w A n c xs) (h' : Sl w A' n' c' ys) (hn : n ≤ N) (hn' : n' ≤ N) (hN : N ≤ 100000) :
    Calls Tryz.prog 95 #[.slice A n c, .slice A' n' c'] w fun e w' => e = .returned (.bool (decide (Nat.gcd (val xs) (val ys) = 1))) ∧ Below w.heap.size w w' := by
  have va : val xs < W ^ N := val_lt_pow h.us (by have := h.len; omega)
  have vb : val ys < W ^ N := val_lt_pow h'.us (by have := h'.len; omega)
  have vg := gcd_lt va vb
  have GG := gcd_gcd h h' hn hn' (by omega)
  obtain ⟨g, hg⟩ : ∃ g, Nat.gcd (val xs) (val ys) = g := ⟨_, rfl⟩
  obtain ⟨bb, hbb⟩ : ∃ b, decide (Nat.gcd (val xs) (val ys) = 1) = b := ⟨_, rfl⟩
  rw [hbb]
  rw [hg] at GG vg
  simp only [hg] at hbb
  have OF := fun w => nat_of 1 (by unfold U; omega) w
  rw [show (1 : Int).toNat = 1 from rfl] at OF
  have HG := Lib.hid GG
  have HV := Lib.hid vg
  have HO := Lib.hid OF
  have HB := Lib.hid hbb
  clear GG va vb vg h h' OF hbb hg
  go_enter Tryz.func95, Tryz.ntmps95
  go_wp2_with fail
  refine HG.out.mono ?_
  rintro e w1 ⟨A1, n1, c1, rfl, s1, b1⟩
  have l1 : n1 ≤ N := s1.small HV.out
  go_wp2_with fail
  refine (HO.out _).mono ?_
  rintro e w2 ⟨A2, n2, c2, rfl, s2, b2⟩
  have l2 : n2 ≤ 1 := s2.small (by rw [Nat.pow_one]; unfold W; omega)
  have CM := nat_cmp (s1.below b2) s2 (by omega) (by omega)
  have ez := cmpN_zero g 1
  rw [val_words, val_words] at CM
  rw [HB.out] at ez
  generalize cmpN g 1 = cm at CM ez
  have HC := Lib.hid CM
  have hb2 := b1.trans (b2.mono b1.size)
  clear CM s1 s2 b1 b2 HG
  go_wp2_with fail
  refine HC.out.mono ?_
  rintro e w' ⟨rfl, rfl⟩
  go_wp2_with fail
  go_ret
  exact ⟨rfl, hb2⟩

end Go.Proofs.YtfhihapgjiaobaaGreat
