/-
  What gcd.Gcd, gcd.Reduce, gcd.Lcm and gcd.Coprime do, told by Nat.gcd. Conditions: the slices read as lists of words, of at most 100000 words.
-/
import Derived.Test.YtmoahgiklgicgaaDoorProdPowAll
import Derived.Test.YtmoahgiklgicgaaDoorMem2All
import Derived.Test.YtmoahgiklgicgaaDoorProdMathAll
namespace Go.Proofs.YtmoahgiklgicgaaDoor
set_option maxRecDepth 100000
open Go.RowKit
set_option linter.unusedVariables false
set_option linter.unusedSimpArgs false

/-! ### a quotient bit by bit: plain -/
theorem bit_step (a k : Nat) : a / 2 ^ k = 2 * (a / 2 ^ (k + 1)) + a / 2 ^ k % 2 := by
  rw [Nat.pow_succ, ← Nat.div_div_eq_div_mul]; omega
theorem rdiv_yes {a b k : Nat} (hb : 0 < b) (h : b ≤ 2 * (a / 2 ^ (k + 1) % b) + a / 2 ^ k % 2) :
    2 * (a / 2 ^ (k + 1) % b) + a / 2 ^ k % 2 - b = a / 2 ^ k % b ∧ a / 2 ^ (k + 1) / b * 2 ^ (k + 1) + 2 ^ k = a / 2 ^ k / b * 2 ^ k := by
  have hs := bit_step a k
  have h1 := Nat.div_add_mod (a / 2 ^ (k + 1)) b
  have h2 := Nat.mod_lt (a / 2 ^ (k + 1)) hb
  have h3 : a / 2 ^ k % 2 < 2 := Nat.mod_lt _ (by omega)
  generalize a / 2 ^ k % 2 = t at *
  generalize a / 2 ^ (k + 1) = A1 at *
  generalize A1 % b = r at *
  generalize A1 / b = q at *
  have e : a / 2 ^ k = b * (2 * q + 1) + (2 * r + t - b) := by
    have e1 : b * (2 * q + 1) = 2 * (b * q) + b := by grind
    rw [hs, ← h1, e1]
    omega
  have hlt : 2 * r + t - b < b := by omega
  rw [e, Nat.mul_add_mod, Nat.mod_eq_of_lt hlt, Nat.mul_add_div hb, Nat.div_eq_of_lt hlt]
  refine ⟨rfl, ?_⟩
  rw [Nat.pow_succ]
  grind
theorem rdiv_no {a b k : Nat} (hb : 0 < b) (h : 2 * (a / 2 ^ (k + 1) % b) + a / 2 ^ k % 2 < b) :
    2 * (a / 2 ^ (k + 1) % b) + a / 2 ^ k % 2 = a / 2 ^ k % b ∧ a / 2 ^ (k + 1) / b * 2 ^ (k + 1) = a / 2 ^ k / b * 2 ^ k := by
  have hs := bit_step a k
  have h1 := Nat.div_add_mod (a / 2 ^ (k + 1)) b
  generalize a / 2 ^ k % 2 = t at *
  generalize a / 2 ^ (k + 1) = A1 at *
  generalize A1 % b = r at *
  generalize A1 / b = q at *
  have e : a / 2 ^ k = b * (2 * q) + (2 * r + t) := by
    have e1 : b * (2 * q) = 2 * (b * q) := by grind
    rw [hs, ← h1, e1]
    omega
  rw [e, Nat.mul_add_mod, Nat.mod_eq_of_lt h, Nat.mul_add_div hb, Nat.div_eq_of_lt h]
  refine ⟨rfl, ?_⟩
  rw [Nat.pow_succ]
  grind
theorem qbit_free (Q k : Nat) : Q * 2 ^ (k + 1) / 2 ^ k % 2 = 0 := by
  rw [Nat.pow_succ, Nat.mul_comm (2 ^ k) 2, ← Nat.mul_assoc, Nat.mul_div_cancel _ (Nat.two_pow_pos k)]
  omega
theorem from_start {a b f : Nat} (hb : 0 < b) (h : blen a + 1 ≤ f + blen b) : a / 2 ^ f < b := by
  have h1 := blen_lt a
  have h2 := blen_self hb
  have h3 := blen_pos hb
  rw [Nat.div_lt_iff_lt_mul (Nat.two_pow_pos f)]
  refine Nat.lt_of_lt_of_le h1 ?_
  refine Nat.le_trans (Nat.pow_le_pow_right (by omega) (show blen a ≤ blen b - 1 + f by omega)) ?_
  rw [Nat.pow_add]
  exact Nat.mul_le_mul_right _ h2

set_option maxRecDepth 100000 in
set_option maxHeartbeats 4000000 in
theorem ref_div_long {w : World} {A A' : Option Addr} {n n' c c' : Nat} {xs ys : List Int} (h : Sl w A n c xs) (h' : Sl w A' n' c' ys) (hn : n ≤ 1000) (hn' : n' ≤ 1000) (h0 : 0 < val ys) (h1 : ¬ (sz xs = 1 ∧ sz ys = 1)) :
    Calls Tryd.prog 93 #[.slice A n c, .slice A' n' c'] w (RetQR (val xs / val ys) (val xs % val ys) w) := by
  have Z1 := ref_size h (by omega)
  have Z2 := ref_size h' (by omega)
  have B1 := ref_bits h (by omega)
  have B2 := ref_bits h' (by omega)
  have bl1 := blen_val_le h
  have bl2 := blen_val_le h'
  have vb : val ys < W ^ n' := val_lt_pow h'.us (by have := h'.len; omega)
  have hsz : sz xs ≤ n := by rw [h.len]; exact sz_le xs
  have hsz' : sz ys ≤ n' := by rw [h'.len]; exact sz_le ys
  have hfr := fun f => from_start (a := val xs) (f := f) h0
  obtain ⟨La, hLa⟩ : ∃ L, blen (val xs) = L := ⟨_, rfl⟩
  obtain ⟨Lb, hLb⟩ : ∃ L, blen (val ys) = L := ⟨_, rfl⟩
  rw [hLa] at B1 bl1 hfr
  rw [hLb] at B2 bl2 hfr
  obtain ⟨f, hf⟩ : ∃ f, La + 1 - Lb = f := ⟨_, rfl⟩
  have hff := hfr f (by omega)
  have hf64 : f ≤ 64001 := by omega
  have SHR := ref_shr h (by omega) (f : Int) (by omega)
  rw [Int.toNat_natCast] at SHR
  have BIT := fun w1 (hb : Below w.heap.size w w1) (k : Nat) (hk : k ≤ 64001) => ref_bit (h.below hb) (by omega) (k : Int) (by omega)
  have CMP := fun w1 (hb : Below w.heap.size w w1) (B : Option Addr) (nb cb : Nat) (zs : List Int) (s : Sl w1 B nb cb zs) (hnb : nb ≤ 2000) => ref_cmp s (h'.below hb) (by omega) (by omega)
  have SUB := fun w1 (hb : Below w.heap.size w w1) (B : Option Addr) (nb cb : Nat) (zs : List Int) (s : Sl w1 B nb cb zs) (hnb : nb ≤ 2000) (hle : val ys ≤ val zs) => ref_nsub s (h'.below hb) (by omega) (by omega) hle
  generalize val xs = a at *
  generalize val ys = b at *
  obtain ⟨p, hp⟩ : ∃ p, sz xs = p := ⟨_, rfl⟩
  obtain ⟨q, hq⟩ : ∃ q, sz ys = q := ⟨_, rfl⟩
  rw [hp] at Z1 h1 hsz
  rw [hq] at Z2 h1 hsz'
  have HZ1 := Lib.hid Z1
  have HZ2 := Lib.hid Z2
  have HB1 := Lib.hid B1
  have HB2 := Lib.hid B2
  have HFF := Lib.hid hff
  have HF := Lib.hid hf
  have HSHR := Lib.hid SHR
  have HBIT := Lib.hid BIT
  have HCMP := Lib.hid CMP
  have HSUB := Lib.hid SUB
  have HVB := Lib.hid vb
  have HB0 := Lib.hid h0
  clear Z1 Z2 B1 B2 hff hf SHR BIT CMP SUB vb hfr hLa hLb hp hq h0
  go_enter Tryd.func93, Tryd.ntmps93
  go_upto_region 2 with (fail)
  go_cut [18] (fun s18 wx => s18 = .bool false ∧ w = wx)
  case first =>
    by_cases hp1 : p = 1
    · subst hp1
      have hq1 : ((q : Int) == 1) = false := by simp; omega
      go_wp2_with fail
      refine HZ1.out.mono ?_
      rintro e w' ⟨rfl, rfl⟩
      go_wp2_with fail
      refine HZ2.out.mono ?_
      rintro e w' ⟨rfl, rfl⟩
      go_wp2_with fail
      go_meet
      exact ⟨rfl, rfl⟩
    · have hp2 : ((p : Int) == 1) = false := by simp; omega
      go_wp2_with fail
      refine HZ1.out.mono ?_
      rintro e w' ⟨rfl, rfl⟩
      go_wp2_with fail
      go_meet
      exact ⟨rfl, rfl⟩
  case rest =>
    obtain ⟨rfl, rfl⟩ := hcut
    clear HZ1 HZ2 h1 hsz hsz'
    go_upto_region 4 with (fail)
    go_wp2_with fail
    refine HB1.out.mono ?_
    rintro e w' ⟨rfl, rfl⟩
    go_upto_region 5 with (fail)
    go_cut [9] (fun s9 wx => s9 = .int .i64 f ∧ w = wx)
    case first =>
      by_cases hlt : Lb ≤ La + 1
      · have hlt' : ¬ ((La : Int) - (Lb : Int) + 1 < 0) := by omega
        go_wp2_with fail
        refine HB2.out.mono ?_
        rintro e w' ⟨rfl, rfl⟩
        go_wp2_with fail
        all_goals
          go_meet
          exact ⟨vint (by have := HF.out; omega), rfl⟩
      · have hlt' : (La : Int) - (Lb : Int) + 1 < 0 := by omega
        go_wp2_with fail
        refine HB2.out.mono ?_
        rintro e w' ⟨rfl, rfl⟩
        go_wp2_with fail
        all_goals
          go_meet
          exact ⟨vint (by have := HF.out; omega), rfl⟩
    case rest =>
      obtain ⟨rfl, rfl⟩ := hcut
      clear HB1 HB2
      go_wp2_with fail
      refine HSHR.out.mono ?_
      rintro e w1 ⟨A1, n1, c1, rfl, s1, b1⟩
      go_wp2_with fail
      go_loopw [6, 7, 10] (fun qv rv iv wr => ∃ (k : Nat) (j : Int) (Bq : Option Addr) (nq cq : Nat) (qs : List Int) (Br : Option Addr) (nr cr : Nat) (rs : List Int), k ≤ f ∧ j + 1 ≤ k ∧ (k : Int) ≤ j + 1 ∧ iv = .int .i64 j ∧ qv = .slice Bq nq cq ∧ rv = .slice Br nr cr ∧ nq ≤ f / 64 + 1 ∧ nr ≤ n' + 2 ∧ Sl wr Bq nq cq qs ∧ Sl wr Br nr cr rs ∧ Hid (val qs = a / 2 ^ k / b * 2 ^ k) ∧ Hid (val rs = a / 2 ^ k % b) ∧ Below w.heap.size w wr) (fun _ _ iv _ => (intOf iv + 1).toNat)
      case atStart =>
        refine ⟨f, _, none, 0, 0, [], A1, n1, c1, _, by omega, by omega, by omega, rfl, rfl, rfl, by omega, ?_, Sl.nil _ _ _, s1, Lib.hid ?_, Lib.hid ?_, b1⟩
        · have := s1.small (k := n') (Nat.lt_trans HFF.out HVB.out); omega
        · rw [Nat.div_eq_of_lt HFF.out]; simp [val, valB]
        · rw [val_words, Nat.mod_eq_of_lt HFF.out]
      case round =>
        clear s1 b1 HFF HSHR
        obtain ⟨k, j, Bq, nq, cq, qs, Br, nr, cr, rs, hk, hj1, hj2, rfl, rfl, rfl, hnq, hnr, sq, sr, HQ, HR, hb⟩ := hrel
        by_cases hk0 : k = 0
        · subst hk0
          obtain rfl : j = -1 := by omega
          have hq9 : val qs = a / b := by rw [HQ.out]; simp
          have hr9 : val rs = a % b := by rw [HR.out]; simp
          have T1 := ref_trim sq (by omega)
          rw [hq9] at T1
          have HT1 := Lib.hid T1
          have HR9 := Lib.hid hr9
          clear T1 hq9 hr9
          go_wp2_with fail
          refine HT1.out.mono ?_
          rintro e w7 ⟨A7, n7, c7, rfl, s7, b7⟩
          have T2 := ref_trim (sr.below b7) (by omega)
          rw [HR9.out] at T2
          have HT2 := Lib.hid T2
          clear T2 HT1
          go_wp2_with fail
          refine HT2.out.mono ?_
          rintro e w8 ⟨A8, n8, c8, rfl, s8, b8⟩
          have hb7 := hb.trans (b7.mono hb.size)
          go_wp2_with fail
          go_ret2
          exact ⟨_, _, _, _, _, _, rfl, s7.below b8, s8, hb7.trans (b8.mono hb7.size)⟩
        · obtain ⟨i, rfl⟩ : ∃ i, k = i + 1 := ⟨k - 1, by omega⟩
          obtain rfl : j = (i : Int) := by omega
          have hrb := Nat.mod_lt (a / 2 ^ (i + 1)) HB0.out
          have hyes := rdiv_yes (a := a) (k := i) HB0.out
          have hno := rdiv_no (a := a) (k := i) HB0.out
          have hqf := qbit_free (a / 2 ^ (i + 1) / b) i
          have SL := ref_shl sr (by omega) 1
          rw [clampS_mid (by omega) (by omega), show (1 : Int).toNat = 1 from rfl, Nat.pow_one, HR.out] at SL
          rw [← HQ.out] at hyes hno hqf
          have hif : i / 64 + 1 ≤ f / 64 + 1 := by omega
          obtain ⟨t, ht⟩ : ∃ t, a / 2 ^ i % 2 = t := ⟨_, rfl⟩
          have ht2 : t < 2 := by rw [← ht]; exact Nat.mod_lt _ (by omega)
          have htb := fun w1 hb => HBIT.out w1 hb i (by omega)
          rw [bitN_nat, ht] at htb
          rw [ht] at hyes hno
          generalize a / 2 ^ (i + 1) % b = r1 at *
          have HSL := Lib.hid SL
          have HYES := Lib.hid hyes
          have HNO := Lib.hid hno
          have HQF := Lib.hid hqf
          have HTB := Lib.hid htb
          have HRB := Lib.hid hrb
          clear SL hyes hno hqf htb hrb ht sr
          go_wp2_with fail
          refine HSL.out.mono ?_
          rintro e w2 ⟨A2, n2, c2, rfl, s2, b2⟩
          have hb2 := hb.trans (b2.mono hb.size)
          have sq2 := sq.below b2
          have hr2W : r1 * 2 + 1 < W ^ (n' + 1) := by
            have hv := HVB.out
            have hr := HRB.out
            have : W ^ n' * 2 ≤ W ^ n' * W := Nat.mul_le_mul_left _ two_le_W
            rw [Nat.pow_succ]
            omega
          have hn2 : n2 ≤ n' + 1 := s2.small (Nat.lt_of_le_of_lt (by omega) hr2W)
          clear sq b2 HSL hb hr2W
          have TB := HTB.out _ hb2
          rcases (show t = 0 ∨ t = 1 by omega) with rfl | rfl
          · rw [decide_eq_false (by omega)] at TB
            have HT := Lib.hid TB
            clear TB HTB
            go_wp2_with fail
            refine HT.out.mono ?_
            rintro e w' ⟨rfl, rfl⟩
            obtain ⟨zs, ez⟩ : ∃ zs, words (r1 * 2) = zs := ⟨_, rfl⟩
            have hvz : val zs = 2 * r1 + 0 := by rw [← ez, val_words]; omega
            rw [ez] at s2
            have HVZ := Lib.hid hvz
            clear ez hvz HT
            have CC := HCMP.out _ hb2 _ _ _ _ s2 (by omega)
            rw [HVZ.out] at CC
            by_cases hle : b ≤ 2 * r1 + 0
            · have hcm : 0 ≤ cmpN (2 * r1 + 0) b := by have := cmpN_neg (2 * r1 + 0) b; omega
              obtain ⟨y1, y2⟩ := HYES.out hle
              have SB := HSUB.out _ hb2 _ _ _ _ s2 (by omega) (by rw [HVZ.out]; exact hle)
              rw [HVZ.out, y1] at SB
              generalize cmpN (2 * r1 + 0) b = cm at CC hcm
              have HC := Lib.hid CC
              have HSB := Lib.hid SB
              have Y1 := Lib.hid y1
              have Y2 := Lib.hid y2
              clear CC SB y1 y2 hle HYES HNO
              go_wp2_with fail
              refine HC.out.mono ?_
              rintro e w' ⟨rfl, rfl⟩
              go_wp2_with fail
              refine HSB.out.mono ?_
              rintro e w4 ⟨A4, n4, c4, rfl, s4, b4⟩
              have hb4 := (hb2).trans (b4.mono (hb2).size)
              have hn4 : n4 ≤ n' + 2 := Nat.le_trans (s4.small (k := n') (Nat.lt_trans (Nat.mod_lt _ HB0.out) HVB.out)) (by omega)
              have SQ := ref_set ((sq2).below b4) (by omega) i (by omega) HQF.out (f / 64 + 1) hnq hif
              have HSQ := Lib.hid SQ
              clear SQ HSB HC
              go_wp2_with fail
              refine HSQ.out.mono ?_
              rintro e w5 ⟨A5, n5, c5, qs5, rfl, hn5, s5, v5, b5⟩
              have HV5 := Lib.hid (v5.trans Y2.out)
              have s45 := s4.below b5
              have hb5 := hb4.trans (b5.mono hb4.size)
              clear v5 HSQ s4 b5
              go_wp2_with fail
              go_roundw
              case rel => exact ⟨i, _, A5, n5, c5, qs5, A4, n4, c4, _, by omega, by omega, by omega, rfl, rfl, rfl, hn5, hn4, s5, s45, HV5, Lib.hid (by rw [val_words]), hb5⟩
              case measure => simp [intOf]
            · rw [cmpN_lt (by omega)] at CC
              obtain ⟨y1, y2⟩ := HNO.out (by omega)
              have HC := Lib.hid CC
              have Y1 := Lib.hid (HVZ.out.trans y1)
              have Y2 := Lib.hid y2
              clear CC y1 y2 hle HYES HNO
              go_wp2_with fail
              refine HC.out.mono ?_
              rintro e w' ⟨rfl, rfl⟩
              go_wp2_with fail
              go_roundw
              case rel => exact ⟨i, _, Bq, nq, cq, qs, A2, n2, c2, zs, by omega, by omega, by omega, rfl, rfl, rfl, hnq, by omega, sq2, s2, Y2, Y1, hb2⟩
              case measure => simp [intOf]
          · rw [decide_eq_true rfl] at TB
            have HT := Lib.hid TB
            have ST := ref_set s2 (by omega) 0 (by omega) (by rw [val_words]; simp) (n' + 2) (by omega) (by omega)
            have HSE := Lib.hid ST
            clear TB HTB ST
            go_wp2_with fail
            refine HT.out.mono ?_
            rintro e w' ⟨rfl, rfl⟩
            go_wp2_with fail
            refine HSE.out.mono ?_
            rintro e w3 ⟨A3, n3, c3, zs, rfl, hn3, s3, hv3, b3⟩
            have hvz : val zs = 2 * r1 + 1 := by rw [hv3, val_words]; simp; omega
            have HVZ := Lib.hid hvz
            have hb3 := hb2.trans (b3.mono hb2.size)
            have sq3 := sq2.below b3
            clear hv3 hvz HSE HT b3 s2 sq2
            have CC := HCMP.out _ hb3 _ _ _ _ s3 (by omega)
            rw [HVZ.out] at CC
            by_cases hle : b ≤ 2 * r1 + 1
            · have hcm : 0 ≤ cmpN (2 * r1 + 1) b := by have := cmpN_neg (2 * r1 + 1) b; omega
              obtain ⟨y1, y2⟩ := HYES.out hle
              have SB := HSUB.out _ hb3 _ _ _ _ s3 (by omega) (by rw [HVZ.out]; exact hle)
              rw [HVZ.out, y1] at SB
              generalize cmpN (2 * r1 + 1) b = cm at CC hcm
              have HC := Lib.hid CC
              have HSB := Lib.hid SB
              have Y1 := Lib.hid y1
              have Y2 := Lib.hid y2
              clear CC SB y1 y2 hle HYES HNO
              go_wp2_with fail
              refine HC.out.mono ?_
              rintro e w' ⟨rfl, rfl⟩
              go_wp2_with fail
              refine HSB.out.mono ?_
              rintro e w4 ⟨A4, n4, c4, rfl, s4, b4⟩
              have hb4 := (hb3).trans (b4.mono (hb3).size)
              have hn4 : n4 ≤ n' + 2 := Nat.le_trans (s4.small (k := n') (Nat.lt_trans (Nat.mod_lt _ HB0.out) HVB.out)) (by omega)
              have SQ := ref_set ((sq3).below b4) (by omega) i (by omega) HQF.out (f / 64 + 1) hnq hif
              have HSQ := Lib.hid SQ
              clear SQ HSB HC
              go_wp2_with fail
              refine HSQ.out.mono ?_
              rintro e w5 ⟨A5, n5, c5, qs5, rfl, hn5, s5, v5, b5⟩
              have HV5 := Lib.hid (v5.trans Y2.out)
              have s45 := s4.below b5
              have hb5 := hb4.trans (b5.mono hb4.size)
              clear v5 HSQ s4 b5
              go_wp2_with fail
              go_roundw
              case rel => exact ⟨i, _, A5, n5, c5, qs5, A4, n4, c4, _, by omega, by omega, by omega, rfl, rfl, rfl, hn5, hn4, s5, s45, HV5, Lib.hid (by rw [val_words]), hb5⟩
              case measure => simp [intOf]
            · rw [cmpN_lt (by omega)] at CC
              obtain ⟨y1, y2⟩ := HNO.out (by omega)
              have HC := Lib.hid CC
              have Y1 := Lib.hid (HVZ.out.trans y1)
              have Y2 := Lib.hid y2
              clear CC y1 y2 hle HYES HNO
              go_wp2_with fail
              refine HC.out.mono ?_
              rintro e w' ⟨rfl, rfl⟩
              go_wp2_with fail
              go_roundw
              case rel => exact ⟨i, _, Bq, nq, cq, qs, A3, n3, c3, zs, by omega, by omega, by omega, rfl, rfl, rfl, hnq, by omega, sq3, s3, Y2, Y1, hb3⟩
              case measure => simp [intOf]

end Go.Proofs.YtmoahgiklgicgaaDoor

namespace Go.Proofs.YtmoahgiklgicgaaDoor
set_option maxRecDepth 100000
open Go.RowKit
set_option linter.unusedVariables false
set_option linter.unusedSimpArgs false

set_option maxRecDepth 100000 in
set_option maxHeartbeats 4000000 in
theorem ref_div_short {w : World} {A A' : Option Addr} {n n' c c' : Nat} {xs ys : List Int} (h : Sl w A n c xs) (h' : Sl w A' n' c' ys) (hn : n ≤ 1000) (hn' : n' ≤ 1000) (h1 : sz xs = 1) (h2 : sz ys = 1) :
    Calls Tryd.prog 93 #[.slice A n c, .slice A' n' c'] w (RetQR (val xs / val ys) (val xs % val ys) w) := by
  have Z1 := ref_size h (by omega)
  have Z2 := ref_size h' (by omega)
  rw [h1] at Z1
  rw [h2] at Z2
  have hsz : sz xs ≤ n := by rw [h.len]; exact sz_le xs
  have hsz' : sz ys ≤ n' := by rw [h'.len]; exact sz_le ys
  have hv1 := val_short (Dg_U h.us) (by omega)
  have hv2 := val_short (Dg_U h'.us) (by omega)
  have ux := h.u 0
  have uy := h'.u 0
  have hy0 : ys.getD 0 0 ≠ 0 := by have := sz_last ys (by omega); rw [h2] at this; exact this
  obtain ⟨b, off, rfl, hlt, hc⟩ := h.at_ (k := 0) (by omega)
  obtain ⟨b', off', rfl, hlt', hc'⟩ := h'.at_ (k := 0) (by omega)
  have g1 : w.cell? ⟨b, off, none⟩ = some (.int .u64 (xs.getD 0 0)) := hc 0 (by omega)
  have g2 : w.cell? ⟨b', off', none⟩ = some (.int .u64 (ys.getD 0 0)) := hc' 0 (by omega)
  have hn1 : 0 < n := by omega
  have hn2 : 0 < n' := by omega
  rw [hv1, hv2]
  generalize xs.getD 0 0 = x at *
  generalize ys.getD 0 0 = y at *
  have hx0 : 0 ≤ x := ux.1
  have hyp : 0 < y := by have := uy.1; omega
  have hyf : (y == 0) = false := by simpa using hy0
  have uq : U (x / y) := by
    obtain ⟨X, rfl⟩ := Int.eq_ofNat_of_zero_le hx0
    obtain ⟨Y, rfl⟩ := Int.eq_ofNat_of_zero_le uy.1
    have := Nat.div_le_self X Y
    have hX : X < 18446744073709551616 := by have := ux.2; omega
    rw [← Int.natCast_ediv]
    generalize X / Y = Q at *
    exact U_nat (by omega)
  have ur : U (x % y) := by
    have h1 := Int.emod_nonneg x (show y ≠ 0 by omega)
    have h2 := Int.emod_lt_of_pos x hyp
    unfold U at *
    omega
  have eq : (x / y).toNat = x.toNat / y.toNat := by
    obtain ⟨X, rfl⟩ := Int.eq_ofNat_of_zero_le hx0
    obtain ⟨Y, rfl⟩ := Int.eq_ofNat_of_zero_le uy.1
    rw [← Int.natCast_ediv]; rfl
  have er : (x % y).toNat = x.toNat % y.toNat := by
    obtain ⟨X, rfl⟩ := Int.eq_ofNat_of_zero_le hx0
    obtain ⟨Y, rfl⟩ := Int.eq_ofNat_of_zero_le uy.1
    rw [← Int.natCast_emod]; rfl
  rw [← eq, ← er]
  have T : ∀ (z : Int) (_ : U z) (W1 : World) (A1 : Option Addr) (_ : Sl W1 A1 1 1 [z]), Calls Tryd.prog 77 #[.slice A1 1 1] W1 (RetSl (words z.toNat) W1) := fun z hz W1 A1 hs => by
    have := ref_trim hs (by omega)
    rw [val_one] at this
    exact this
  have HZ1 := Lib.hid Z1
  have HZ2 := Lib.hid Z2
  have HT := Lib.hid T
  have hwq : IntKind.u64.wrap (x / y) = x / y := by rw [wrapU_lo, lo_U uq]
  have hwm : IntKind.u64.wrap (x % y) = x % y := by rw [wrapU_lo, lo_U ur]
  have hdx : x.tdiv y = x / y := Int.tdiv_eq_ediv_of_nonneg hx0
  have hmx : x.tmod y = x % y := Int.tmod_eq_emod_of_nonneg hx0
  clear Z1 Z2 T hc hc' hv1 hv2 h1 h2 hsz hsz' h h' eq er
  go_enter Tryd.func93, Tryd.ntmps93
  go_wp2_with fail
  refine HZ1.out.mono ?_
  rintro e w' ⟨rfl, rfl⟩
  go_wp2_with fail
  refine HZ2.out.mono ?_
  rintro e w' ⟨rfl, rfl⟩
  go_wp2_with fail
  have HS : Hid (∀ w', Below w.heap.size w w' → w'.cell? ⟨b, off, none⟩ = some (.int .u64 x) ∧ w'.cell? ⟨b', off', none⟩ = some (.int .u64 y)) := fun w' hb => ⟨(hb.cell (p := ⟨b, off, none⟩) hlt).trans g1, (hb.cell (p := ⟨b', off', none⟩) hlt').trans g2⟩
  clear HZ1 HZ2 g1 g2
  have hq1 : (w.alloc (.cells #[.int .u64 (x / y)] 22)).heap.size = w.heap.size + 1 := by simp
  have hr1 : (w.alloc (.cells #[.int .u64 (x % y)] 22)).heap.size = w.heap.size + 1 := by simp
  have sB2 := sl_lit (w.alloc (.cells #[.int .u64 (x / y)] 22)) (x % y) ur
  rw [hq1] at sB2
  have sC1 := sl_lit (w.alloc (.cells #[.int .u64 (x % y)] 22)) (x / y) uq
  rw [hr1] at sC1
  have SA := Lib.hid (sl_lit w (x / y) uq)
  have SB1 := Lib.hid ((sl_lit w (x / y) uq).below (below_alloc (w.alloc (.cells #[.int .u64 (x / y)] 22)) (.cells #[.int .u64 (x % y)] 22)))
  have SB2 := Lib.hid sB2
  have SC1 := Lib.hid sC1
  have SC2 := Lib.hid ((sl_lit w (x % y) ur).below (below_alloc (w.alloc (.cells #[.int .u64 (x % y)] 22)) (.cells #[.int .u64 (x / y)] 22)))
  have YA := Lib.hid (below_alloc w (.cells #[.int .u64 (x / y)] 22))
  have YC := Lib.hid (below_alloc w (.cells #[.int .u64 (x % y)] 22))
  have YB := Lib.hid ((below_alloc w (.cells #[.int .u64 (x / y)] 22)).alloc (by simp) (.cells #[.int .u64 (x % y)] 22))
  have YD := Lib.hid ((below_alloc w (.cells #[.int .u64 (x % y)] 22)).alloc (by simp) (.cells #[.int .u64 (x / y)] 22))
  clear hq1 hr1 sB2 sC1
  go_region_held3 (fun w' => w'.cell? ⟨b, off, none⟩ = some (.int .u64 x) ∧ w'.cell? ⟨b', off', none⟩ = some (.int .u64 y)) (first | exact HS.out _ (Below.refl w.heap.size w).drew | exact HS.out _ YA.out.drew | exact HS.out _ YB.out.drew | exact HS.out _ YC.out.drew | exact HS.out _ YD.out.drew | exact HS.out _ x2 | exact HS.out _ x1 | exact HS.out _ (x1.alloc x1.size _) | fail)
    (first
      | (go_at_call 77; (with_reducible refine (HT.out (x / y) uq _ _ ?hs1).mono ?_); (case hs1 => first | exact SA.out | exact SB1.out | exact SC1.out); rintro e w1 ⟨A1, n1, c1, rfl, t1, b1⟩; have x1 : Below w.heap.size w w1 := (by first | exact YA.out.trans ((Below.undrew b1).mono YA.out.size) | exact YB.out.trans ((Below.undrew b1).mono YB.out.size) | exact YD.out.trans ((Below.undrew b1).mono YD.out.size)))
      | (go_at_call 77; (with_reducible refine (HT.out (x % y) ur _ _ ?hs2).mono ?_); (case hs2 => first | exact sl_lit w1 (x % y) ur | exact SB2.out.below (Below.undrew b1) | exact SC2.out.below (Below.undrew b1)); rintro e w2 ⟨A2, n2, c2, rfl, t2, b2⟩; have x12 : Below w1.heap.size w1 w2 := (by first | exact b2 | exact (below_alloc w1 _).trans (b2.mono (by simp))); have x2 : Below w.heap.size w w2 := x1.trans (x12.mono x1.size)))
  all_goals
    go_wp2_with fail
    go_ret2
    exact ⟨_, _, _, _, _, _, rfl, t1.below x12, t2, x2⟩

theorem ref_div {w : World} {A A' : Option Addr} {n n' c c' : Nat} {xs ys : List Int} (h : Sl w A n c xs) (h' : Sl w A' n' c' ys) (hn : n ≤ 1000) (hn' : n' ≤ 1000) (h0 : 0 < val ys) :
    Calls Tryd.prog 93 #[.slice A n c, .slice A' n' c'] w (RetQR (val xs / val ys) (val xs % val ys) w) := by
  by_cases h1 : sz xs = 1 ∧ sz ys = 1
  · exact ref_div_short h h' hn hn' h1.1 h1.2
  · exact ref_div_long h h' hn hn' h0 h1

end Go.Proofs.YtmoahgiklgicgaaDoor

namespace Go.Proofs.YtmoahgiklgicgaaDoor
set_option maxRecDepth 100000
open Go.RowKit
set_option linter.unusedVariables false
set_option linter.unusedSimpArgs false

theorem mesV_val {w : World} {A : Option Addr} {n c : Nat} {xs : List Int} (h : Sl w A n c xs) : mesV (.slice A n c) w = val xs := by
  rcases Nat.eq_zero_or_pos n with h0 | h0
  · subst h0
    have e : xs = [] := List.eq_nil_of_length_eq_zero h.len.symm
    subst e
    unfold mesV
    split
    · rename_i b off n' c' heq
      injection heq with _ e2
      subst e2
      rfl
    · rfl
  · obtain ⟨b, off, rfl, _, hc⟩ := h.at_ (k := 0) h0
    show val (readAt w b off n) = val xs
    have e : readAt w b off n = xs := by
      unfold readAt
      apply List.ext_getElem
      · rw [List.length_map, List.length_range]; exact h.len
      · intro j h1 h2
        have hj : j < n := by simpa using h1
        simp only [List.getElem_map, List.getElem_range]
        rw [hc j hj]
        simp [cellInt, List.getD_eq_getElem?_getD, List.getElem?_eq_getElem h2]
    rw [e]

/-- Euclid's steps on words -/
def GW (G : Nat) (d r : Int) : Prop := U d ∧ U r ∧ Nat.gcd d.toNat r.toNat = G
theorem GW.step {G : Nat} {d r : Int} (h : GW G d r) (h0 : r ≠ 0) : GW G r (d.tmod r) ∧ (d.tmod r).toNat < r.toNat := by
  obtain ⟨hd, hr, hg⟩ := h
  rw [Int.tmod_eq_emod_of_nonneg hd.1]
  have hd' := hd
  have hr' := hr
  unfold U at hd hr
  have p : 0 < r := by omega
  have h1 := Int.emod_nonneg d h0
  have h2 := Int.emod_lt_of_pos d p
  have h3 : (d % r).toNat = d.toNat % r.toNat := Int.toNat_emod hd.1 hr.1
  refine ⟨⟨hr', ?_, ?_⟩, ?_⟩
  · show U (d % r); unfold U; omega
  · show Nat.gcd r.toNat (d % r).toNat = G
    rw [h3, gcd_step]; exact hg
  · show (d % r).toNat < r.toNat
    omega
theorem GW.end_ {G : Nat} {d : Int} (h : GW G d 0) : d.toNat = G := by
  have := h.2.2
  simpa using this

theorem cmpN_zero (a b : Nat) : (cmpN a b == 0) = decide (a = b) := by
  unfold cmpN
  split
  · rw [decide_eq_false (by omega)]; rfl
  · split
    · rw [decide_eq_false (by omega)]; rfl
    · rw [decide_eq_true (by omega)]; rfl
end Go.Proofs.YtmoahgiklgicgaaDoor
