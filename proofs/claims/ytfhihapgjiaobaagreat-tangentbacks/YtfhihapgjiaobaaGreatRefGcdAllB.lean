/-
  What rat's small functions do: isZero, signed, Make, Of, Sign, told by Lean's own Rat. Conditions: the slices read as lists of words, of at most 1000 words.
-/
import Derived.Test.YtfhihapgjiaobaaGreatRefDivAllB
import Derived.Test.YtfhihapgjiaobaaGreatProdMathAllB
import Derived.Deep.RegionHeld3
namespace Go.Proofs.YtfhihapgjiaobaaGreat
set_option maxRecDepth 100000
open Go.RowKit
set_option linter.unusedVariables false
set_option linter.unusedSimpArgs false

theorem words_single {x : Int} (hx : U x) (h : 0 < x) : words x.toNat = [x] := by
  rw [← val_one x, words_val (Dg_U (by intro y hy; simp at hy; subst hy; exact hx)), trim_cons]
  simp [sz]
  omega
theorem shr_odd (v : Nat) : v / 2 ^ ((tz v : Nat) : Int).toNat = odd v := by rw [Int.toNat_natCast]; rfl
theorem tz_lim {v N : Nat} (h : v < W ^ N) : tz v ≤ 64 * N := by
  have : v < 2 ^ (64 * N + 1) := by
    rw [W_pow, ← Nat.pow_mul] at h
    exact Nat.lt_of_lt_of_le h (Nat.pow_le_pow_right (by omega) (by omega))
  have := tz_lt this (by omega)
  omega
theorem tz_small {v N : Nat} (h : v < W ^ N) (hN : N ≤ 1000) : tz v ≤ 65536 := by
  have := tz_lim h
  omega

/-- the two numbers, odd, of a round -/
def Odds (G N X Y : Nat) : Prop := X % 2 = 1 ∧ Y % 2 = 1 ∧ X < W ^ N ∧ Y < W ^ N ∧ Nat.gcd X Y = G
theorem Odds.less {G N X Y : Nat} (h : Odds G N X Y) (hl : Y < X) : Odds G N (odd (X - Y)) Y ∧ odd (X - Y) + Y < X + Y := by
  obtain ⟨hx, hy, hX, hY, hg⟩ := h
  obtain ⟨h1, h2, h3⟩ := gcd_round hx hy hl
  exact ⟨⟨h2, hy, by omega, hY, by rw [h1]; exact hg⟩, by omega⟩
theorem Odds.swap {G N X Y : Nat} (h : Odds G N X Y) : Odds G N Y X := by
  obtain ⟨hx, hy, hX, hY, hg⟩ := h
  exact ⟨hy, hx, hY, hX, by rw [Nat.gcd_comm]; exact hg⟩

set_option maxHeartbeats 2000000 in
theorem ref_gcdT {w : World} {A A' : Option Addr} {n n' c c' N : Nat} {xs ys : List Int} (h : Sl w A n c xs) (h' : Sl w A' n' c' ys) (hn : n ≤ N) (hn' : n' ≤ N) (hN : N ≤ 90000) (hz : min (tz (val xs)) (tz (val ys)) ≤ 65536) :
    Calls Tryz.prog 74 #[.slice A n c, .slice A' n' c'] w (RetSl (words (Nat.gcd (val xs) (val ys))) w) := by
  have va : val xs < W ^ N := val_lt_pow h.us (by have := h.len; omega)
  have vb : val ys < W ^ N := val_lt_pow h'.us (by have := h'.len; omega)
  have HZM := Lib.hid hz
  clear hz
  have za : val xs = 0 ↔ sz xs = 0 := valB_zero_iff W_pos (Dg_U h.us)
  have zb : val ys = 0 ↔ sz ys = 0 := valB_zero_iff W_pos (Dg_U h'.us)
  have ZA := ref_size h (by omega)
  have ZB := ref_size h' (by omega)
  by_cases ha : sz xs = 0
  · rw [ha] at ZA
    rw [za.2 ha, Nat.gcd_zero_left]
    have HT := Lib.hid (ref_trim h' (by omega))
    have HZ := Lib.hid ZA
    clear ZA ZB va vb za zb ha
    go_enter Tryz.func74, Tryz.ntmps74
    go_wp2_with fail
    refine HZ.out.mono ?_
    rintro e w' ⟨rfl, rfl⟩
    go_wp2_with fail
    refine HT.out.mono ?_
    rintro e w1 ⟨A1, n1, c1, rfl, s1, b1⟩
    go_wp2_with fail
    go_ret
    exact ⟨_, _, _, rfl, s1, b1⟩
  by_cases hb : sz ys = 0
  · rw [hb] at ZB
    rw [zb.2 hb, Nat.gcd_zero_right]
    have HT := Lib.hid (ref_trim h (by omega))
    have ha0 : ((sz xs : Int) == 0) = false := by simp; omega
    generalize ((sz xs : Nat) : Int) = p at *
    have HZ := Lib.hid ZA
    have HZB := Lib.hid ZB
    clear ZA ZB va vb za zb hb
    go_enter Tryz.func74, Tryz.ntmps74
    go_wp2_with fail
    refine HZ.out.mono ?_
    rintro e w' ⟨rfl, rfl⟩
    go_wp2_with fail
    refine HZB.out.mono ?_
    rintro e w' ⟨rfl, rfl⟩
    go_wp2_with fail
    refine HT.out.mono ?_
    rintro e w1 ⟨A1, n1, c1, rfl, s1, b1⟩
    go_wp2_with fail
    go_ret
    exact ⟨_, _, _, rfl, s1, b1⟩
  by_cases h11 : sz xs = 1 ∧ sz ys = 1
  · have hva := val_short (Dg_U h.us) (by omega)
    have hvb := val_short (Dg_U h'.us) (by omega)
    have hl1 : 0 < n := by have := sz_le xs; have := h.len; omega
    have hl2 : 0 < n' := by have := sz_le ys; have := h'.len; omega
    obtain ⟨p1, o1, rfl, _, hc1⟩ := h.at_ (k := 0) hl1
    obtain ⟨p2, o2, rfl, _, hc2⟩ := h'.at_ (k := 0) hl2
    have k1 := hc1 0 hl1
    have k2 := hc2 0 hl2
    rw [Nat.add_zero] at k1 k2
    have hg : GW (Nat.gcd (val xs) (val ys)) (xs.getD 0 0) (ys.getD 0 0) := ⟨h.u 0, h'.u 0, by rw [hva, hvb]⟩
    have hgp : 0 < Nat.gcd (val xs) (val ys) := Nat.gcd_pos_of_pos_left _ (Nat.pos_of_ne_zero (fun e => ha (za.1 e)))
    rw [h11.1] at ZA
    rw [h11.2] at ZB
    generalize Nat.gcd (val xs) (val ys) = G at *
    generalize xs.getD 0 0 = x0 at *
    generalize ys.getD 0 0 = y0 at *
    have HZ := Lib.hid ZA
    have HZB := Lib.hid ZB
    have HG := Lib.hid hg
    have HGP := Lib.hid hgp
    clear ZA ZB va vb za zb ha hb hg hgp hva hvb h11 hc1 hc2 h h'
    go_enter Tryz.func74, Tryz.ntmps74
    go_wp2_with fail
    refine HZ.out.mono ?_
    rintro e w' ⟨rfl, rfl⟩
    go_wp2_with fail
    refine HZB.out.mono ?_
    rintro e w' ⟨rfl, rfl⟩
    go_wp2_with fail
    refine HZ.out.mono ?_
    rintro e w' ⟨rfl, rfl⟩
    go_wp2_with fail
    refine HZB.out.mono ?_
    rintro e w' ⟨rfl, rfl⟩
    go_wp2_with fail
    go_region
    go_wp2_with fail
    go_loopw [5, 6] (fun dv rv wr => ∃ (d r : Int), dv = .int .u64 d ∧ rv = .int .u64 r ∧ Hid (GW G d r) ∧ Below w.heap.size w wr) (fun _ rv _ => (intOf rv).toNat)
    case atStart => exact ⟨_, _, rfl, rfl, HG, (Below.refl _ _).drew⟩
    case round =>
      clear HG k1 k2 HZ HZB
      obtain ⟨d, r, rfl, rfl, HG, hb⟩ := hrel
      by_cases hr : r = 0
      · subst hr
        have hd := HG.out.1
        have he := HG.out.end_
        have hw : words G = [d] := by rw [← he]; exact words_single hd (by have := HGP.out; omega)
        have HW := Lib.hid hw
        have HD := Lib.hid hd
        clear hw hd he
        go_wp2_with fail
        go_ret
        exact ⟨_, _, _, rfl, by rw [HW.out]; exact sl_lit _ d HD.out, hb.alloc hb.size _⟩
      · have hrp : 0 < r := by have := HG.out.2.1; unfold U at this; omega
        have hne : (r == 0) = false := by simp [hr]
        obtain ⟨hs1, hs2⟩ := HG.out.step hr
        have HS1 := Lib.hid hs1
        have HS2 := Lib.hid hs2
        clear hs1 hs2
        go_wp2_with fail
        go_region
        go_wp2_with fail
        go_roundw
        case rel => exact ⟨_, _, rfl, rfl, HS1, hb.drew⟩
        case measure => exact HS2.out
  have ha0 : ((sz xs : Int) == 0) = false := by simp; omega
  have hb0 : ((sz ys : Int) == 0) = false := by simp; omega
  have hna : val xs ≠ 0 := fun e => ha (za.1 e)
  have hnb : val ys ≠ 0 := fun e => hb (zb.1 e)
  have EA := fun w1 (hb : Below w.heap.size w w1) => ref_even (h.below hb) (by omega)
  have EB := fun w1 (hb : Below w.heap.size w w1) => ref_even (h'.below hb) (by omega)
  have ta := tz_lim va
  have tb := tz_lim vb
  have RA := fun w1 (hb : Below w.heap.size w w1) => ref_shr (h.below hb) (by omega) (tz (val xs) : Nat) (by omega)
  have RB := fun w1 (hb : Below w.heap.size w w1) => ref_shr (h'.below hb) (by omega) (tz (val ys) : Nat) (by omega)
  rw [shr_odd] at RA RB
  have od : Odds (Nat.gcd (odd (val xs)) (odd (val ys))) N (odd (val xs)) (odd (val ys)) := ⟨(odd_eq hna).2, (odd_eq hnb).2, Nat.lt_of_le_of_lt (odd_le _) va, Nat.lt_of_le_of_lt (odd_le _) vb, rfl⟩
  rw [gcd_start hna hnb]
  generalize Nat.gcd (odd (val xs)) (odd (val ys)) = G at *
  generalize odd (val xs) = X0 at *
  generalize odd (val ys) = Y0 at *
  obtain ⟨t1, et1⟩ : ∃ t, tz (val xs) = t := ⟨_, rfl⟩
  obtain ⟨t2, et2⟩ : ∃ t, tz (val ys) = t := ⟨_, rfl⟩
  rw [et1, et2]
  rw [et1] at EA RA ta
  rw [et2] at EB RB tb
  obtain ⟨m, em⟩ : ∃ m, min t1 t2 = m := ⟨_, rfl⟩
  have emi : (t1 ≤ t2 ∧ m = t1) ∨ (t2 < t1 ∧ m = t2) := by omega
  have hm : m ≤ 65536 := by have := HZM.out; rw [et1, et2, em] at this; exact this
  clear HZM
  rw [em]
  have hmm : clampS (m : Int) = m := by rw [clampS_mid (by omega) (by omega)]; omega
  have HEA := Lib.hid EA
  have HEB := Lib.hid EB
  have HRA := Lib.hid RA
  have HRB := Lib.hid RB
  have HOD := Lib.hid od
  have HMM := Lib.hid hmm
  have HZ := Lib.hid ZA
  have HZB := Lib.hid ZB
  clear ZA ZB va vb za zb hna hnb EA EB RA RB od ta tb et1 et2 em h h' hmm
  rcases emi with ⟨hle, rfl⟩ | ⟨hle, rfl⟩
  all_goals
    by_cases h1 : sz xs = 1
    · have hb1 : ((sz ys : Int) == 1) = false := by simp; omega
      rw [h1] at HZ
      generalize ((sz ys : Nat) : Int) = q at *
      clear ha hb h11 h1 ha0
      go_enter Tryz.func74, Tryz.ntmps74
      go_wp2_with fail
      refine HZ.out.mono ?_
      rintro e w' ⟨rfl, rfl⟩
      go_wp2_with fail
      refine HZB.out.mono ?_
      rintro e w' ⟨rfl, rfl⟩
      go_wp2_with fail
      refine HZ.out.mono ?_
      rintro e w' ⟨rfl, rfl⟩
      go_wp2_with fail
      refine HZB.out.mono ?_
      rintro e w' ⟨rfl, rfl⟩
      go_wp2_with fail
      refine (HEA.out _ (Below.refl _ _)).mono ?_
      rintro e w' ⟨rfl, rfl⟩
      go_wp2_with fail
      refine (HEB.out _ (Below.refl _ _)).mono ?_
      rintro e w' ⟨rfl, rfl⟩
      go_wp2_with fail
      refine (HEA.out _ (Below.refl _ _)).mono ?_
      rintro e w' ⟨rfl, rfl⟩
      go_wp2_with fail
      refine (HRA.out _ (Below.refl _ _)).mono ?_
      rintro e w1 ⟨A1, n1, c1, rfl, s1, b1⟩
      go_wp2_with fail
      refine (HEB.out _ b1).mono ?_
      rintro e w' ⟨rfl, rfl⟩
      go_wp2_with fail
      refine (HRB.out _ b1).mono ?_
      rintro e w2 ⟨A2, n2, c2, rfl, s2, b2⟩
      have hb2 := b1.trans (b2.mono b1.size)
      have s1' := s1.below b2
      clear s1 b1 b2 HEA HEB HRA HRB HZ HZB
      go_wp2_with fail
      go_loopw [8, 9] (fun xv yv wr => ∃ (X Y : Nat) (A A' : Option Addr) (n n' c c' : Nat), xv = .slice A n c ∧ yv = .slice A' n' c' ∧ Sl wr A n c (words X) ∧ Sl wr A' n' c' (words Y) ∧ Hid (Odds G N X Y) ∧ Below w.heap.size w wr) (fun xv yv wr => mesV xv wr + mesV yv wr)
      case atStart => exact ⟨_, _, _, _, _, _, _, _, rfl, rfl, s1', s2, HOD, hb2⟩
      case round =>
        clear s1' s2 HOD hb2
        obtain ⟨X, Y, A, A', n, n', c, c', rfl, rfl, sx, sy, HO, hb⟩ := hrel
        have lx : n ≤ N := sx.small HO.out.2.2.1
        have ly : n' ≤ N := sy.small HO.out.2.2.2.1
        have hmx := mesV_val sx
        have hmy := mesV_val sy
        rw [val_words] at hmx hmy
        have CM := ref_cmp sx sy (by omega) (by omega)
        rw [val_words, val_words] at CM
        have HMX := Lib.hid hmx
        have HMY := Lib.hid hmy
        clear hmx hmy
        rcases Nat.lt_trichotomy X Y with hlt | heq | hgt
        · rw [cmpN_lt hlt] at CM
          obtain ⟨ho, hms⟩ := HO.out.swap.less hlt
          have SB := ref_nsub sy sx (by omega) (by omega) (by rw [val_words, val_words]; omega)
          rw [val_words, val_words] at SB
          have hsm : Y - X < W ^ N := Nat.lt_of_le_of_lt (Nat.sub_le _ _) HO.out.2.2.2.1
          have HC := Lib.hid CM
          have HSB := Lib.hid SB
          have HNO := Lib.hid ho
          have HMS := Lib.hid hms
          have HSM := Lib.hid hsm
          clear CM SB ho hms hsm hlt sy
          go_wp2_with fail
          refine HC.out.mono ?_
          rintro e w' ⟨rfl, rfl⟩
          go_wp2_with fail
          refine HSB.out.mono ?_
          rintro e w3 ⟨A3, n3, c3, rfl, s3, b3⟩
          have l3 : n3 ≤ N := s3.small HSM.out
          have hb3 := hb.trans (b3.mono hb.size)
          have sx3 := sx.below b3
          have EV := ref_even s3 (by omega)
          have SR := ref_shr s3 (by omega) (tz (Y - X) : Nat) (by have := tz_lim HSM.out; omega)
          rw [val_words] at EV SR
          rw [shr_odd] at SR
          generalize ((tz (Y - X) : Nat) : Int) = tt at EV SR
          have HEV := Lib.hid EV
          have HSR := Lib.hid SR
          clear EV SR s3 b3 sx HSB
          go_wp2_with fail
          refine HEV.out.mono ?_
          rintro e w' ⟨rfl, rfl⟩
          go_wp2_with fail
          refine HSR.out.mono ?_
          rintro e w4 ⟨A4, n4, c4, rfl, s4, b4⟩
          have hb4 := hb3.trans (b4.mono hb3.size)
          have sx4 := sx3.below b4
          have m4 := mesV_val s4
          have mx4 := mesV_val sx4
          rw [val_words] at m4 mx4
          have HM4 := Lib.hid m4
          have HMX4 := Lib.hid mx4
          clear m4 mx4 HEV HSR b4 sx3
          go_wp2_with fail
          go_roundw
          case rel => exact ⟨_, _, _, _, _, _, _, _, rfl, rfl, s4, sx4, HNO, hb4⟩
          case measure => rw [HM4.out, HMX4.out, HMX.out, HMY.out]; have := HMS.out; omega
        · subst heq
          rw [cmpN_eq] at CM
          have SL := ref_shl sx (by omega) (m : Int)
          have hG : X = G := by have := HO.out.2.2.2.2; rw [Nat.gcd_self] at this; exact this
          rw [val_words, HMM.out, hG] at SL
          have HC := Lib.hid CM
          have HSL := Lib.hid SL
          clear CM SL hG
          go_wp2_with fail
          refine HC.out.mono ?_
          rintro e w' ⟨rfl, rfl⟩
          go_wp2_with fail
          refine HSL.out.mono ?_
          rintro e w3 ⟨A3, n3, c3, rfl, s3, b3⟩
          go_wp2_with fail
          go_ret
          exact ⟨_, _, _, rfl, s3, hb.trans (b3.mono hb.size)⟩
        · rw [cmpN_gt hgt] at CM
          obtain ⟨ho, hms⟩ := HO.out.less hgt
          have SB := ref_nsub sx sy (by omega) (by omega) (by rw [val_words, val_words]; omega)
          rw [val_words, val_words] at SB
          have hsm : X - Y < W ^ N := Nat.lt_of_le_of_lt (Nat.sub_le _ _) HO.out.2.2.1
          have HC := Lib.hid CM
          have HSB := Lib.hid SB
          have HNO := Lib.hid ho
          have HMS := Lib.hid hms
          have HSM := Lib.hid hsm
          clear CM SB ho hms hsm hgt sx
          go_wp2_with fail
          refine HC.out.mono ?_
          rintro e w' ⟨rfl, rfl⟩
          go_wp2_with fail
          refine HSB.out.mono ?_
          rintro e w3 ⟨A3, n3, c3, rfl, s3, b3⟩
          have l3 : n3 ≤ N := s3.small HSM.out
          have hb3 := hb.trans (b3.mono hb.size)
          have sy3 := sy.below b3
          have EV := ref_even s3 (by omega)
          have SR := ref_shr s3 (by omega) (tz (X - Y) : Nat) (by have := tz_lim HSM.out; omega)
          rw [val_words] at EV SR
          rw [shr_odd] at SR
          generalize ((tz (X - Y) : Nat) : Int) = tt at EV SR
          have HEV := Lib.hid EV
          have HSR := Lib.hid SR
          clear EV SR s3 b3 sy HSB
          go_wp2_with fail
          refine HEV.out.mono ?_
          rintro e w' ⟨rfl, rfl⟩
          go_wp2_with fail
          refine HSR.out.mono ?_
          rintro e w4 ⟨A4, n4, c4, rfl, s4, b4⟩
          have hb4 := hb3.trans (b4.mono hb3.size)
          have sy4 := sy3.below b4
          have m4 := mesV_val s4
          have my4 := mesV_val sy4
          rw [val_words] at m4 my4
          have HM4 := Lib.hid m4
          have HMY4 := Lib.hid my4
          clear m4 my4 HEV HSR b4 sy3
          go_wp2_with fail
          go_roundw
          case rel => exact ⟨_, _, _, _, _, _, _, _, rfl, rfl, s4, sy4, HNO, hb4⟩
          case measure => rw [HM4.out, HMY4.out, HMX.out, HMY.out]; have := HMS.out; omega
    · have ha1 : ((sz xs : Int) == 1) = false := by simp; omega
      generalize ((sz ys : Nat) : Int) = q at *
      generalize ((sz xs : Nat) : Int) = p at *
      clear ha hb h11 h1
      go_enter Tryz.func74, Tryz.ntmps74
      go_wp2_with fail
      refine HZ.out.mono ?_
      rintro e w' ⟨rfl, rfl⟩
      go_wp2_with fail
      refine HZB.out.mono ?_
      rintro e w' ⟨rfl, rfl⟩
      go_wp2_with fail
      refine HZ.out.mono ?_
      rintro e w' ⟨rfl, rfl⟩
      go_wp2_with fail
      refine (HEA.out _ (Below.refl _ _)).mono ?_
      rintro e w' ⟨rfl, rfl⟩
      go_wp2_with fail
      refine (HEB.out _ (Below.refl _ _)).mono ?_
      rintro e w' ⟨rfl, rfl⟩
      go_wp2_with fail
      refine (HEA.out _ (Below.refl _ _)).mono ?_
      rintro e w' ⟨rfl, rfl⟩
      go_wp2_with fail
      refine (HRA.out _ (Below.refl _ _)).mono ?_
      rintro e w1 ⟨A1, n1, c1, rfl, s1, b1⟩
      go_wp2_with fail
      refine (HEB.out _ b1).mono ?_
      rintro e w' ⟨rfl, rfl⟩
      go_wp2_with fail
      refine (HRB.out _ b1).mono ?_
      rintro e w2 ⟨A2, n2, c2, rfl, s2, b2⟩
      have hb2 := b1.trans (b2.mono b1.size)
      have s1' := s1.below b2
      clear s1 b1 b2 HEA HEB HRA HRB HZ HZB
      go_wp2_with fail
      go_loopw [8, 9] (fun xv yv wr => ∃ (X Y : Nat) (A A' : Option Addr) (n n' c c' : Nat), xv = .slice A n c ∧ yv = .slice A' n' c' ∧ Sl wr A n c (words X) ∧ Sl wr A' n' c' (words Y) ∧ Hid (Odds G N X Y) ∧ Below w.heap.size w wr) (fun xv yv wr => mesV xv wr + mesV yv wr)
      case atStart => exact ⟨_, _, _, _, _, _, _, _, rfl, rfl, s1', s2, HOD, hb2⟩
      case round =>
        clear s1' s2 HOD hb2
        obtain ⟨X, Y, A, A', n, n', c, c', rfl, rfl, sx, sy, HO, hb⟩ := hrel
        have lx : n ≤ N := sx.small HO.out.2.2.1
        have ly : n' ≤ N := sy.small HO.out.2.2.2.1
        have hmx := mesV_val sx
        have hmy := mesV_val sy
        rw [val_words] at hmx hmy
        have CM := ref_cmp sx sy (by omega) (by omega)
        rw [val_words, val_words] at CM
        have HMX := Lib.hid hmx
        have HMY := Lib.hid hmy
        clear hmx hmy
        rcases Nat.lt_trichotomy X Y with hlt | heq | hgt
        · rw [cmpN_lt hlt] at CM
          obtain ⟨ho, hms⟩ := HO.out.swap.less hlt
          have SB := ref_nsub sy sx (by omega) (by omega) (by rw [val_words, val_words]; omega)
          rw [val_words, val_words] at SB
          have hsm : Y - X < W ^ N := Nat.lt_of_le_of_lt (Nat.sub_le _ _) HO.out.2.2.2.1
          have HC := Lib.hid CM
          have HSB := Lib.hid SB
          have HNO := Lib.hid ho
          have HMS := Lib.hid hms
          have HSM := Lib.hid hsm
          clear CM SB ho hms hsm hlt sy
          go_wp2_with fail
          refine HC.out.mono ?_
          rintro e w' ⟨rfl, rfl⟩
          go_wp2_with fail
          refine HSB.out.mono ?_
          rintro e w3 ⟨A3, n3, c3, rfl, s3, b3⟩
          have l3 : n3 ≤ N := s3.small HSM.out
          have hb3 := hb.trans (b3.mono hb.size)
          have sx3 := sx.below b3
          have EV := ref_even s3 (by omega)
          have SR := ref_shr s3 (by omega) (tz (Y - X) : Nat) (by have := tz_lim HSM.out; omega)
          rw [val_words] at EV SR
          rw [shr_odd] at SR
          generalize ((tz (Y - X) : Nat) : Int) = tt at EV SR
          have HEV := Lib.hid EV
          have HSR := Lib.hid SR
          clear EV SR s3 b3 sx HSB
          go_wp2_with fail
          refine HEV.out.mono ?_
          rintro e w' ⟨rfl, rfl⟩
          go_wp2_with fail
          refine HSR.out.mono ?_
          rintro e w4 ⟨A4, n4, c4, rfl, s4, b4⟩
          have hb4 := hb3.trans (b4.mono hb3.size)
          have sx4 := sx3.below b4
          have m4 := mesV_val s4
          have mx4 := mesV_val sx4
          rw [val_words] at m4 mx4
          have HM4 := Lib.hid m4
          have HMX4 := Lib.hid mx4
          clear m4 mx4 HEV HSR b4 sx3
          go_wp2_with fail
          go_roundw
          case rel => exact ⟨_, _, _, _, _, _, _, _, rfl, rfl, s4, sx4, HNO, hb4⟩
          case measure => rw [HM4.out, HMX4.out, HMX.out, HMY.out]; have := HMS.out; omega
        · subst heq
          rw [cmpN_eq] at CM
          have SL := ref_shl sx (by omega) (m : Int)
          have hG : X = G := by have := HO.out.2.2.2.2; rw [Nat.gcd_self] at this; exact this
          rw [val_words, HMM.out, hG] at SL
          have HC := Lib.hid CM
          have HSL := Lib.hid SL
          clear CM SL hG
          go_wp2_with fail
          refine HC.out.mono ?_
          rintro e w' ⟨rfl, rfl⟩
          go_wp2_with fail
          refine HSL.out.mono ?_
          rintro e w3 ⟨A3, n3, c3, rfl, s3, b3⟩
          go_wp2_with fail
          go_ret
          exact ⟨_, _, _, rfl, s3, hb.trans (b3.mono hb.size)⟩
        · rw [cmpN_gt hgt] at CM
          obtain ⟨ho, hms⟩ := HO.out.less hgt
          have SB := ref_nsub sx sy (by omega) (by omega) (by rw [val_words, val_words]; omega)
          rw [val_words, val_words] at SB
          have hsm : X - Y < W ^ N := Nat.lt_of_le_of_lt (Nat.sub_le _ _) HO.out.2.2.1
          have HC := Lib.hid CM
          have HSB := Lib.hid SB
          have HNO := Lib.hid ho
          have HMS := Lib.hid hms
          have HSM := Lib.hid hsm
          clear CM SB ho hms hsm hgt sx
          go_wp2_with fail
          refine HC.out.mono ?_
          rintro e w' ⟨rfl, rfl⟩
          go_wp2_with fail
          refine HSB.out.mono ?_
          rintro e w3 ⟨A3, n3, c3, rfl, s3, b3⟩
          have l3 : n3 ≤ N := s3.small HSM.out
          have hb3 := hb.trans (b3.mono hb.size)
          have sy3 := sy.below b3
          have EV := ref_even s3 (by omega)
          have SR := ref_shr s3 (by omega) (tz (X - Y) : Nat) (by have := tz_lim HSM.out; omega)
          rw [val_words] at EV SR
          rw [shr_odd] at SR
          generalize ((tz (X - Y) : Nat) : Int) = tt at EV SR
          have HEV := Lib.hid EV
          have HSR := Lib.hid SR
          clear EV SR s3 b3 sy HSB
          go_wp2_with fail
          refine HEV.out.mono ?_
          rintro e w' ⟨rfl, rfl⟩
          go_wp2_with fail
          refine HSR.out.mono ?_
          rintro e w4 ⟨A4, n4, c4, rfl, s4, b4⟩
          have hb4 := hb3.trans (b4.mono hb3.size)
          have sy4 := sy3.below b4
          have m4 := mesV_val s4
          have my4 := mesV_val sy4
          rw [val_words] at m4 my4
          have HM4 := Lib.hid m4
          have HMY4 := Lib.hid my4
          clear m4 my4 HEV HSR b4 sy3
          go_wp2_with fail
          go_roundw
          case rel => exact ⟨_, _, _, _, _, _, _, _, rfl, rfl, s4, sy4, HNO, hb4⟩
          case measure => rw [HM4.out, HMY4.out, HMX.out, HMY.out]; have := HMS.out; omega

theorem ref_gcd {w : World} {A A' : Option Addr} {n n' c c' N : Nat} {xs ys : List Int} (h : Sl w A n c xs) (h' : Sl w A' n' c' ys) (hn : n ≤ N) (hn' : n' ≤ N) (hN : N ≤ 1000) :
    Calls Tryz.prog 74 #[.slice A n c, .slice A' n' c'] w (RetSl (words (Nat.gcd (val xs) (val ys))) w) := by
  have va : val xs < W ^ N := val_lt_pow h.us (by have := h.len; omega)
  have := tz_small va hN
  exact ref_gcdT h h' hn hn' (by omega) (by omega)

set_option maxHeartbeats 1000000 in
theorem ref_part {w : World} {A A' : Option Addr} {n n' c c' N : Nat} {xs ys : List Int} (h : Sl w A n c xs) (h' : Sl w A' n' c' ys) (hn : n ≤ N) (hn' : n' ≤ N) (hN : N ≤ 90000) :
    Calls Tryz.prog 83 #[.slice A n c, .slice A' n' c'] w (RetSl (words (val xs / val ys)) w) := by
  have zb : val ys = 0 ↔ sz ys = 0 := valB_zero_iff W_pos (Dg_U h'.us)
  have ZB := ref_size h' (by omega)
  by_cases hb : sz ys = 0
  · rw [hb] at ZB
    rw [zb.2 hb, Nat.div_zero]
    have HZ := Lib.hid ZB
    clear ZB zb hb
    go_enter Tryz.func83, Tryz.ntmps83
    go_wp2_with fail
    refine HZ.out.mono ?_
    rintro e w' ⟨rfl, rfl⟩
    go_wp2_with fail
    go_ret
    exact ⟨_, _, _, rfl, Sl.nil _ _ _, Below.refl _ _⟩
  have hb0 : ((sz ys : Int) == 0) = false := by simp; omega
  have hp : 0 < val ys := Nat.pos_of_ne_zero (fun e => hb (zb.1 e))
  generalize ((sz ys : Nat) : Int) = p at *
  have CM := ref_cmp (h'.below (below_alloc w (.cells #[.int .u64 1] 76))) (sl_lit w 1 (by unfold U; omega)) (by omega) (by omega)
  have hba := below_alloc w (.cells #[.int .u64 1] 76)
  rw [val_one, show (1 : Int).toNat = 1 from rfl] at CM
  have ez := cmpN_zero (val ys) 1
  have TR := ref_trim (h.below hba) (by omega)
  have DV := ref_div (h.below hba) (h'.below hba) (by omega) (by omega) hp
  by_cases h1 : val ys = 1
  · rw [decide_eq_true h1] at ez
    generalize cmpN (val ys) 1 = cm at *
    rw [h1, Nat.div_one]
    have HZ := Lib.hid ZB
    have HC := Lib.hid CM
    have HT := Lib.hid TR
    have HBA := Lib.hid hba
    clear ZB CM TR DV hp hba zb hb h1 h h'
    go_enter Tryz.func83, Tryz.ntmps83
    go_wp2_with fail
    refine HZ.out.mono ?_
    rintro e w' ⟨rfl, rfl⟩
    go_wp2_with fail
    refine HC.out.mono ?_
    rintro e w' ⟨rfl, rfl⟩
    go_wp2_with fail
    refine HT.out.mono ?_
    rintro e w1 ⟨A1, n1, c1, rfl, s1, b1⟩
    go_wp2_with fail
    go_ret
    exact ⟨_, _, _, rfl, s1, HBA.out.trans (b1.mono HBA.out.size)⟩
  · rw [decide_eq_false h1] at ez
    generalize cmpN (val ys) 1 = cm at *
    generalize val xs / val ys = q at *
    have HZ := Lib.hid ZB
    have HC := Lib.hid CM
    have HD := Lib.hid DV
    have HBA := Lib.hid hba
    clear ZB CM TR DV hp hba zb hb h1 h h'
    go_enter Tryz.func83, Tryz.ntmps83
    go_wp2_with fail
    refine HZ.out.mono ?_
    rintro e w' ⟨rfl, rfl⟩
    go_wp2_with fail
    refine HC.out.mono ?_
    rintro e w' ⟨rfl, rfl⟩
    go_wp2_with fail
    refine HD.out.mono ?_
    rintro e w1 ⟨A1, n1, c1, A2, n2, c2, rfl, s1, s2, b1⟩
    go_wp2_with fail
    go_ret
    exact ⟨_, _, _, rfl, s1, HBA.out.trans (b1.mono HBA.out.size)⟩

end Go.Proofs.YtfhihapgjiaobaaGreat

namespace Go.Proofs.YtfhihapgjiaobaaGreat
set_option maxRecDepth 100000
open Go.RowKit
set_option linter.unusedVariables false
set_option linter.unusedSimpArgs false

theorem words_len0 (r : Nat) : (((words r).length : Int) == 0) = decide (r = 0) := by
  by_cases h : r = 0
  · subst h; rw [decide_eq_true rfl]; rfl
  · rw [decide_eq_false h]
    have : (words r).length ≠ 0 := fun e => h (by rw [← val_words r, List.eq_nil_of_length_eq_zero e]; rfl)
    simp
    intro e; rw [e] at this; simp at this

end Go.Proofs.YtfhihapgjiaobaaGreat

namespace Go.Proofs.YtfhihapgjiaobaaGreat
set_option maxRecDepth 100000
set_option linter.unusedVariables false
set_option linter.unusedSimpArgs false

/-- a natural with a sign -/
def sI (s : Bool) (p : Nat) : Int := if s then -(p : Int) else p
/-- the number of a sign and two naturals -/
def rq (s : Bool) (p q : Nat) : Rat := mkRat (sI s p) q
def neg_ (X : Rat) : Bool := decide (X.num < 0)

theorem sI_natAbs (s : Bool) (p : Nat) : (sI s p).natAbs = p := by unfold sI; cases s <;> simp
theorem sI_zero (s : Bool) : sI s 0 = 0 := by unfold sI; cases s <;> simp
theorem sI_neg (s : Bool) (p : Nat) : decide (sI s p < 0) = (s && decide (p ≠ 0)) := by
  unfold sI; cases s
  · simp
  · rw [Bool.eq_iff_iff]; simp only [if_true, decide_eq_true_eq, Bool.true_and]; omega
theorem sI_not (s : Bool) (p : Nat) : sI (!s) p = - sI s p := by unfold sI; cases s <;> simp
theorem sI_num (X : Rat) : sI (neg_ X) X.num.natAbs = X.num := by
  unfold sI neg_
  by_cases h : X.num < 0
  · simp [h]; omega
  · simp [h]; omega
theorem sI_mul (s t : Bool) (p q : Nat) : sI (s != t) (p * q) = sI s p * sI t q := by
  unfold sI; cases s <;> cases t <;> simp [Int.neg_mul, Int.mul_neg]
theorem sI_mul_nat (s : Bool) (p q : Nat) : sI s (p * q) = sI s p * q := by
  unfold sI; cases s <;> simp [Int.neg_mul]
/-- in lowest terms -/
theorem rq_cop {s : Bool} {p q : Nat} (h0 : q ≠ 0) (h : Nat.gcd p q = 1) : (rq s p q).num = sI s p ∧ (rq s p q).den = q := by
  unfold rq
  rw [Rat.num_mkRat, Rat.den_mkRat, if_neg h0, if_neg h0, sI_natAbs, Nat.gcd_comm, h]
  simp
theorem rq_red (s : Bool) (p q : Nat) (h0 : q ≠ 0) : rq s p q = rq s (p / Nat.gcd p q) (q / Nat.gcd p q) := by
  have hg : Nat.gcd p q ≠ 0 := fun e => h0 (Nat.eq_zero_of_gcd_eq_zero_right e)
  have h1 : p / Nat.gcd p q * Nat.gcd p q = p := Nat.div_mul_cancel (Nat.gcd_dvd_left p q)
  have h2 : q / Nat.gcd p q * Nat.gcd p q = q := Nat.div_mul_cancel (Nat.gcd_dvd_right p q)
  unfold rq
  have h3 := Rat.mkRat_mul_right (n := sI s (p / Nat.gcd p q)) (d := q / Nat.gcd p q) hg
  rw [← sI_mul_nat, h1, h2] at h3
  exact h3
theorem rq_num (s : Bool) (p q : Nat) (h0 : q ≠ 0) : (rq s p q).num.natAbs = p / Nat.gcd p q ∧ (rq s p q).den = q / Nat.gcd p q ∧ neg_ (rq s p q) = (s && decide (p / Nat.gcd p q ≠ 0)) := by
  have hg : 0 < Nat.gcd p q := Nat.pos_of_ne_zero fun e => h0 (Nat.eq_zero_of_gcd_eq_zero_right e)
  have hq : q / Nat.gcd p q ≠ 0 := by
    have := Nat.div_pos (Nat.le_of_dvd (Nat.pos_of_ne_zero h0) (Nat.gcd_dvd_right p q)) hg
    omega
  have hc : Nat.gcd (p / Nat.gcd p q) (q / Nat.gcd p q) = 1 := Nat.gcd_div_gcd_div_gcd_of_pos_right (Nat.pos_of_ne_zero h0)
  obtain ⟨h1, h2⟩ := rq_cop (s := s) hq hc
  rw [← rq_red s p q h0] at h1 h2
  refine ⟨by rw [h1, sI_natAbs], h2, ?_⟩
  unfold neg_
  rw [h1, sI_neg]
theorem rq_cop' {s : Bool} {p q : Nat} (h0 : q ≠ 0) (h : Nat.gcd p q = 1) : (rq s p q).num.natAbs = p ∧ (rq s p q).den = q ∧ neg_ (rq s p q) = (s && decide (p ≠ 0)) := by
  obtain ⟨h1, h2⟩ := rq_cop (s := s) h0 h
  refine ⟨by rw [h1, sI_natAbs], h2, ?_⟩
  unfold neg_; rw [h1, sI_neg]
theorem rq_self (X : Rat) : rq (neg_ X) X.num.natAbs X.den = X := by unfold rq; rw [sI_num, Rat.mkRat_self]
theorem den_ne (X : Rat) : X.den ≠ 0 := X.den_nz
theorem gcd_num_den (X : Rat) : Nat.gcd X.num.natAbs X.den = 1 := X.reduced
theorem rat_ext {X Y : Rat} (h1 : neg_ X = neg_ Y) (h2 : X.num.natAbs = Y.num.natAbs) (h3 : X.den = Y.den) : X = Y := by
  rw [← rq_self X, ← rq_self Y, h1, h2, h3]

/-- both numbers have at most N words -/
def Sz (X : Rat) (N : Nat) : Prop := X.num.natAbs < W ^ N ∧ X.den < W ^ N
theorem Sz.mono {X : Rat} {N M : Nat} (h : Sz X N) (hm : N ≤ M) : Sz X M :=
  ⟨Nat.lt_of_lt_of_le h.1 (Nat.pow_le_pow_right W_pos hm), Nat.lt_of_lt_of_le h.2 (Nat.pow_le_pow_right W_pos hm)⟩
theorem Sz.neg {X : Rat} {N : Nat} (h : Sz X N) : Sz (-X) N := by
  refine ⟨?_, h.2⟩
  rw [Rat.neg_num, Int.natAbs_neg]; exact h.1
theorem rq_sz {s : Bool} {p q N : Nat} (h0 : q ≠ 0) (hp : p < W ^ N) (hq : q < W ^ N) : Sz (rq s p q) N := by
  obtain ⟨h1, h2, _⟩ := rq_num s p q h0
  refine ⟨?_, ?_⟩
  · rw [h1]; exact Nat.lt_of_le_of_lt (Nat.div_le_self _ _) hp
  · rw [h2]; exact Nat.lt_of_le_of_lt (Nat.div_le_self _ _) hq
theorem two_pow_W (k : Nat) : 2 * W ^ k ≤ W ^ (k + 1) := by
  rw [Nat.pow_succ, Nat.mul_comm]; exact Nat.mul_le_mul_left _ (by unfold W; omega)
theorem mk_rq (z : Int) (q : Nat) : ∃ s, rq s z.natAbs q = mkRat z q := by
  refine ⟨decide (z < 0), ?_⟩
  unfold rq sI
  by_cases h : z < 0
  · simp [h]; congr 1; omega
  · simp [h]; congr 1; omega
theorem mk_sz {z : Int} {q N : Nat} (h0 : q ≠ 0) (hp : z.natAbs < W ^ N) (hq : q < W ^ N) : Sz (mkRat z q) N := by
  obtain ⟨s, h⟩ := mk_rq z q
  rw [← h]; exact rq_sz h0 hp hq
theorem Sz.add {X Y : Rat} {N M : Nat} (h : Sz X N) (k : Sz Y M) : Sz (X + Y) (N + M + 1) := by
  rw [Rat.add_def']
  have a1 := mul_lt_powW h.1 k.2
  have a2 := mul_lt_powW k.1 h.2
  have a3 := mul_lt_powW h.2 k.2
  have e : W ^ (M + N) = W ^ (N + M) := by rw [Nat.add_comm]
  rw [e] at a2
  have t := two_pow_W (N + M)
  refine mk_sz (Nat.mul_ne_zero (den_ne _) (den_ne _)) ?_ (by omega)
  have := Int.natAbs_add_le (X.num * Y.den) (Y.num * X.den)
  rw [Int.natAbs_mul, Int.natAbs_mul, Int.natAbs_natCast, Int.natAbs_natCast] at this
  omega
theorem Sz.mul {X Y : Rat} {N M : Nat} (h : Sz X N) (k : Sz Y M) : Sz (X * Y) (N + M) := by
  rw [Rat.mul_def']
  refine mk_sz (Nat.mul_ne_zero (den_ne _) (den_ne _)) ?_ (mul_lt_powW h.2 k.2)
  rw [Int.natAbs_mul]
  exact mul_lt_powW h.1 k.1
theorem Sz.sub {X Y : Rat} {N M : Nat} (h : Sz X N) (k : Sz Y M) : Sz (X - Y) (N + M + 1) := by
  rw [Rat.sub_eq_add_neg]; exact h.add k.neg
theorem Sz.pos {X : Rat} {N : Nat} (h : Sz X N) : 1 < W ^ N := by
  have := h.2; have := den_ne X; omega
theorem Sz.inv {X : Rat} {N : Nat} (h : Sz X N) : Sz X⁻¹ N := by
  refine ⟨?_, ?_⟩
  · rw [Rat.num_inv, Int.natAbs_mul, Int.natAbs_natCast]
    have h2 := h.2
    have : X.num.sign.natAbs ≤ 1 := by rw [Int.natAbs_sign]; split <;> omega
    exact Nat.lt_of_le_of_lt (Nat.mul_le_mul_right _ this) (by omega)
  · rw [Rat.den_inv]; split
    · exact h.pos
    · exact h.1

/-- the sum, over the common denominator -/
theorem add_rq (X Y : Rat) {s : Bool} {m : Nat} (h : sI s m = X.num * ((Y.den / Nat.gcd X.den Y.den : Nat) : Int) + Y.num * ((X.den / Nat.gcd X.den Y.den : Nat) : Int)) :
    rq s m (X.den * (Y.den / Nat.gcd X.den Y.den)) = X + Y := by
  have hg : Nat.gcd X.den Y.den ≠ 0 := fun e => den_ne X (Nat.eq_zero_of_gcd_eq_zero_left e)
  have h1 : X.den / Nat.gcd X.den Y.den * Nat.gcd X.den Y.den = X.den := Nat.div_mul_cancel (Nat.gcd_dvd_left _ _)
  have h2 : Y.den / Nat.gcd X.den Y.den * Nat.gcd X.den Y.den = Y.den := Nat.div_mul_cancel (Nat.gcd_dvd_right _ _)
  rw [Rat.add_def']
  unfold rq
  rw [h, ← Rat.mkRat_mul_right hg, Int.add_mul, Int.mul_assoc, Int.mul_assoc, ← Int.natCast_mul, ← Int.natCast_mul, h1, h2, Nat.mul_assoc, h2]
theorem add_den_ne (X Y : Rat) : X.den * (Y.den / Nat.gcd X.den Y.den) ≠ 0 := by
  have h2 : Y.den / Nat.gcd X.den Y.den * Nat.gcd X.den Y.den = Y.den := Nat.div_mul_cancel (Nat.gcd_dvd_right _ _)
  refine Nat.mul_ne_zero (den_ne X) fun e => ?_
  rw [e, Nat.zero_mul] at h2
  exact den_ne Y h2.symm
/-- the sum, over the product of the denominators -/
theorem add_rq' (X Y : Rat) {s : Bool} {m : Nat} (h : sI s m = X.num * Y.den + Y.num * X.den) : rq s m (X.den * Y.den) = X + Y := by
  rw [Rat.add_def']; unfold rq; rw [h]
/-- sums with signs -/
theorem sI_add_same (s : Bool) (a b : Nat) : sI s (a + b) = sI s a + sI s b := by unfold sI; cases s <;> simp; omega
theorem sI_add_left {s t : Bool} {a b : Nat} (h : s ≠ t) (hle : b ≤ a) : sI s (a - b) = sI s a + sI t b := by
  unfold sI; cases s <;> cases t <;> simp at h ⊢ <;> omega
theorem sI_add_right {s t : Bool} {a b : Nat} (h : s ≠ t) (hle : a ≤ b) : sI t (b - a) = sI s a + sI t b := by
  unfold sI; cases s <;> cases t <;> simp at h ⊢ <;> omega
theorem neg_rq (X : Rat) : rq (!(neg_ X)) X.num.natAbs X.den = -X := by
  unfold rq; rw [sI_not, sI_num, ← Rat.neg_mkRat, Rat.mkRat_self]

/-- the product, reduced crosswise -/
theorem mul_rq (X Y : Rat) (s : Bool) (hs : s = (neg_ X != neg_ Y)) (a b c d : Nat) (ha : a = X.num.natAbs / Nat.gcd X.num.natAbs Y.den) (hb : b = Y.den / Nat.gcd X.num.natAbs Y.den)
    (hc : c = Y.num.natAbs / Nat.gcd Y.num.natAbs X.den) (hd : d = X.den / Nat.gcd Y.num.natAbs X.den) :
    rq s (a * c) (d * b) = X * Y ∧ d * b ≠ 0 ∧ Nat.gcd (a * c) (d * b) = 1 := by
  have hg1 : Nat.gcd X.num.natAbs Y.den ≠ 0 := fun e => den_ne Y (Nat.eq_zero_of_gcd_eq_zero_right e)
  have hg2 : Nat.gcd Y.num.natAbs X.den ≠ 0 := fun e => den_ne X (Nat.eq_zero_of_gcd_eq_zero_right e)
  have h1 : a * Nat.gcd X.num.natAbs Y.den = X.num.natAbs := by rw [ha]; exact Nat.div_mul_cancel (Nat.gcd_dvd_left _ _)
  have h2 : b * Nat.gcd X.num.natAbs Y.den = Y.den := by rw [hb]; exact Nat.div_mul_cancel (Nat.gcd_dvd_right _ _)
  have h3 : c * Nat.gcd Y.num.natAbs X.den = Y.num.natAbs := by rw [hc]; exact Nat.div_mul_cancel (Nat.gcd_dvd_left _ _)
  have h4 : d * Nat.gcd Y.num.natAbs X.den = X.den := by rw [hd]; exact Nat.div_mul_cancel (Nat.gcd_dvd_right _ _)
  have c1 : Nat.Coprime a b := by
    rw [ha, hb]; exact Nat.gcd_div_gcd_div_gcd_of_pos_right (Nat.pos_of_ne_zero (den_ne Y))
  have c2 : Nat.Coprime c d := by
    rw [hc, hd]; exact Nat.gcd_div_gcd_div_gcd_of_pos_right (Nat.pos_of_ne_zero (den_ne X))
  have c3 : Nat.Coprime a d := Nat.Coprime.coprime_dvd_left ⟨_, h1.symm⟩ (Nat.Coprime.coprime_dvd_right ⟨_, h4.symm⟩ X.reduced)
  have c4 : Nat.Coprime c b := Nat.Coprime.coprime_dvd_left ⟨_, h3.symm⟩ (Nat.Coprime.coprime_dvd_right ⟨_, h2.symm⟩ Y.reduced)
  generalize Nat.gcd X.num.natAbs Y.den = g1 at *
  generalize Nat.gcd Y.num.natAbs X.den = g2 at *
  refine ⟨?_, ?_, ?_⟩
  · rw [Rat.mul_def']
    unfold rq
    have hg : g1 * g2 ≠ 0 := Nat.mul_ne_zero hg1 hg2
    rw [← Rat.mkRat_mul_right hg, hs, ← sI_mul_nat]
    have e1 : a * c * (g1 * g2) = X.num.natAbs * Y.num.natAbs := by rw [← h1, ← h3, Nat.mul_mul_mul_comm]
    have e2 : d * b * (g1 * g2) = X.den * Y.den := by
      rw [← h4, ← h2, Nat.mul_comm g1 g2, Nat.mul_mul_mul_comm]
    rw [e1, e2, sI_mul, sI_num, sI_num]
  · refine Nat.mul_ne_zero (fun e => ?_) (fun e => ?_)
    · rw [e, Nat.zero_mul] at h4; exact den_ne X h4.symm
    · rw [e, Nat.zero_mul] at h2; exact den_ne Y h2.symm
  · exact Nat.Coprime.mul_right (Nat.Coprime.mul_left c3 c2) (Nat.Coprime.mul_left c1 c4)
theorem mul_rq' (X Y : Rat) : rq (neg_ X != neg_ Y) (X.num.natAbs * Y.num.natAbs) (X.den * Y.den) = X * Y := by
  rw [Rat.mul_def']; unfold rq; rw [sI_mul, sI_num, sI_num]
theorem num_ne {X : Rat} (h : X ≠ 0) : X.num ≠ 0 := fun e => h (Rat.num_eq_zero.1 e)
theorem inv_rq (X : Rat) (h : X ≠ 0) : rq (neg_ X) X.den X.num.natAbs = X⁻¹ := by
  have h0 := num_ne h
  have hc : Nat.gcd X.den X.num.natAbs = 1 := by rw [Nat.gcd_comm]; exact X.reduced
  obtain ⟨h1, h2⟩ := rq_cop (s := neg_ X) (p := X.den) (q := X.num.natAbs) (by omega) hc
  refine Rat.ext ?_ ?_
  · rw [h1, Rat.num_inv]
    unfold sI neg_
    by_cases hn : X.num < 0
    · rw [Int.sign_eq_neg_one_of_neg hn]; simp [hn]
    · rw [Int.sign_eq_one_of_pos (by omega)]; simp [hn]
  · rw [h2, Rat.den_inv, if_neg h0]
theorem div_rq (X Y : Rat) (h : Y ≠ 0) : rq (neg_ X != neg_ Y) (X.num.natAbs * Y.den) (X.den * Y.num.natAbs) = X / Y := by
  rw [Rat.div_def, ← mul_rq', ← inv_rq Y h]
  have h0 := num_ne h
  have hc : Nat.gcd Y.den Y.num.natAbs = 1 := by rw [Nat.gcd_comm]; exact Y.reduced
  obtain ⟨h1, h2, h3⟩ := rq_cop' (s := neg_ Y) (p := Y.den) (q := Y.num.natAbs) (by omega) hc
  rw [h1, h2, h3, decide_eq_true (den_ne Y), Bool.and_true]
theorem rat_zero_iff (X : Rat) : X = 0 ↔ X.num.natAbs = 0 := by
  rw [← Rat.num_eq_zero]; omega

end Go.Proofs.YtfhihapgjiaobaaGreat

namespace Go.Proofs.YtfhihapgjiaobaaGreat
set_option maxRecDepth 100000
open Go.RowKit
set_option linter.unusedVariables false
set_option linter.unusedSimpArgs false

/-- the struct of the sign s and the slices (A n c), (A' n' c') reads, in w, as X -/
def Q (w : World) (s : Bool) (A : Option Addr) (n c : Nat) (A' : Option Addr) (n' c' : Nat) (X : Rat) : Prop :=
  s = neg_ X ∧ Sl w A n c (words X.num.natAbs) ∧ Sl w A' n' c' (words X.den)
theorem Q.below {w w' : World} {s : Bool} {A A' : Option Addr} {n c n' c' : Nat} {X : Rat} (h : Q w s A n c A' n' c' X) (hb : Below w.heap.size w w') : Q w' s A n c A' n' c' X :=
  ⟨h.1, h.2.1.below hb, h.2.2.below hb⟩
theorem Q.drewN {w : World} {s : Bool} {A A' : Option Addr} {n c n' c' : Nat} {X : Rat} (h : Q w s A n c A' n' c' X) (k : Nat) : Q (w.drewN k) s A n c A' n' c' X := h
/-- a call that returns a number, and turns nothing that was there -/
def RetQ (X : Rat) (w : World) (e : Ending) (w' : World) : Prop :=
  ∃ s A n c A' n' c', e = .returned (.agg #[.bool s, .slice A n c, .slice A' n' c']) ∧ Q w' s A n c A' n' c' X ∧ Below w.heap.size w w'
/-- .. and an error's number -/
def RetQE (X : Rat) (k : Int) (w : World) (e : Ending) (w' : World) : Prop :=
  ∃ s A n c A' n' c', e = .returned (.tuple #[.agg #[.bool s, .slice A n c, .slice A' n' c'], .int .i64 k]) ∧ Q w' s A n c A' n' c' X ∧ Below w.heap.size w w'
/-- .. no number, and an error's number -/
def RetNo (k : Int) (w : World) (e : Ending) (w' : World) : Prop :=
  e = .returned (.tuple #[.agg #[.bool false, .slice none 0 0, .slice none 0 0], .int .i64 k]) ∧ Below w.heap.size w w'

/-- block g of w is just the cells vs, none frozen -/
def Box (t : TypeId) (w : World) (g : Nat) (vs : Array Value) : Prop := w.heap[g]? = some (.cells vs t (0, 0))
section
variable {t : TypeId} {w w' : World} {g : Nat} {vs : Array Value}
theorem Box.new (w : World) (t : TypeId) (vs : Array Value) : Box t (w.alloc (.cells vs t)) w.heap.size vs := heap_alloc_new w _
theorem Box.lt (h : Box t w g vs) : g < w.heap.size := by
  rcases Nat.lt_or_ge g w.heap.size with hlt | hge
  · exact hlt
  · unfold Box at h; rw [Array.getElem?_eq_none hge] at h; cases h
theorem Box.below {B : Nat} (h : Box t w g vs) (hb : Below B w w') (hg : g < B) : Box t w' g vs := (hb.block g hg).trans h
theorem Box.below' (h : Box t w g vs) (hb : Below w.heap.size w w') : Box t w' g vs := h.below hb h.lt
theorem Box.alloc (h : Box t w g vs) (o : Obj) : Box t (w.alloc o) g vs := h.below (below_alloc w o) h.lt
theorem Box.cell (h : Box t w g vs) (i : Nat) : w.cell? ⟨g, i, none⟩ = vs[i]? := by
  rw [cell_of_row w g i _ t (0, 0) h]
theorem Box.free (h : Box t w g vs) (i : Nat) : w.frozen? ⟨g, i, none⟩ = false := by
  unfold Box at h
  simp [World.frozen?, h]
/-- the three cells of a box of a number -/
theorem Box.three {v0 v1 v2 : Value} (h : Box t w g #[v0, v1, v2]) :
    (w.cell? ⟨g, 0, none⟩ = some v0 ∧ w.cell? ⟨g, 1, none⟩ = some v1 ∧ w.cell? ⟨g, 2, none⟩ = some v2) ∧
    (w.frozen? ⟨g, 0, none⟩ = false ∧ w.frozen? ⟨g, 1, none⟩ = false ∧ w.frozen? ⟨g, 2, none⟩ = false) :=
  ⟨⟨h.cell 0, h.cell 1, h.cell 2⟩, h.free 0, h.free 1, h.free 2⟩
end
/-- a number is stored into block g -/
def put3 (w : World) (g : Nat) (x0 x1 x2 : Value) : World := ((w.setCell ⟨g, 0, none⟩ x0).setCell ⟨g, 1, none⟩ x1).setCell ⟨g, 2, none⟩ x2
/-- a box of a number (none of its cells is an integer) -/
def IsBox (t : TypeId) (w : World) (g : Nat) : Prop := ∃ s A n c A' n' c', Box t w g #[.bool s, .slice A n c, .slice A' n' c']
theorem IsBox.below {t : TypeId} {w w' : World} {g : Nat} (h : IsBox t w g) (hb : Below w.heap.size w w') : IsBox t w' g := by
  obtain ⟨s, A, n, c, A', n', c', h⟩ := h
  exact ⟨s, A, n, c, A', n', c', h.below' hb⟩
theorem Sl.apartBox {t : TypeId} {w : World} {g : Nat} {A : Option Addr} {n c : Nat} {xs : List Int} (hB : IsBox t w g) (h : Sl w A n c xs) : SlN g w A n c xs := by
  refine ⟨h, fun h0 => ?_⟩
  obtain ⟨b, off, e, hlt, hc⟩ := h.2 h0
  refine ⟨b, off, e, fun e2 => ?_⟩
  subst e2
  obtain ⟨s, B, m, d, B', m', d', hb⟩ := hB
  have k := hc 0 h0
  rw [hb.cell] at k
  match off, k with
  | 0, k => simp at k
  | 1, k => simp at k
  | 2, k => simp at k
  | off + 3, k => simp at k
theorem keep_put3 (w : World) (g : Nat) (x0 x1 x2 : Value) : Keep g w (put3 w g x0 x1 x2) := (((Keep.refl g w).setCell 0 x0).setCell 1 x1).setCell 2 x2
theorem Sl.put3 {t : TypeId} {w : World} {g : Nat} {A : Option Addr} {n c : Nat} {xs : List Int} {x0 x1 x2 : Value} (hB : IsBox t w g) (h : Sl w A n c xs) : Sl (put3 w g x0 x1 x2) A n c xs :=
  ((h.apartBox hB).keep (keep_put3 w g x0 x1 x2)).sl
theorem Q.put3 {t : TypeId} {w : World} {g : Nat} {s : Bool} {A A' : Option Addr} {n c n' c' : Nat} {X : Rat} {x0 x1 x2 : Value} (hB : IsBox t w g) (h : Q w s A n c A' n' c' X) : Q (put3 w g x0 x1 x2) s A n c A' n' c' X :=
  ⟨h.1, h.2.1.put3 hB, h.2.2.put3 hB⟩
theorem below_put3 {B g : Nat} {a w : World} (h : Below B a w) (hg : B ≤ g) (hB : B ≤ a.heap.size) (x0 x1 x2 : Value) : Below B a (put3 w g x0 x1 x2) := Below.keep h (keep_put3 w g x0 x1 x2) hg hB

theorem Box.put3 {t : TypeId} {w : World} {g g' : Nat} {vs : Array Value} (h : Box t w g vs) (hne : g ≠ g') (x0 x1 x2 : Value) : Box t (put3 w g' x0 x1 x2) g vs := ((keep_put3 w g' x0 x1 x2).block g h.lt hne).trans h
theorem bb {a b c : World} (h : Below a.heap.size a b) (k : Below b.heap.size b c) : Below a.heap.size a c := h.trans (k.mono h.size)
/-- a call that returns a natural with a sign -/
def RetSB (z : Int) (w : World) (e : Ending) (w' : World) : Prop :=
  ∃ s A n c, e = .returned (.tuple #[.bool s, .slice A n c]) ∧ sI s z.natAbs = z ∧ Sl w' A n c (words z.natAbs) ∧ Below w.heap.size w w'
/-- a call that returns an integer, a bool, and turns nothing that was there -/
def RetI (z : Int) (w : World) (e : Ending) (w' : World) : Prop := e = .returned (.int .i64 z) ∧ Below w.heap.size w w'
def RetBl (b : Bool) (w : World) (e : Ending) (w' : World) : Prop := e = .returned (.bool b) ∧ Below w.heap.size w w'
/-- the world behind the boxes of a number and of a result -/
theorem boxes1 (t : TypeId) (w : World) (vs us : Array Value) : ∃ W, (w.alloc (.cells vs t)).alloc (.cells us t) = W ∧ Box t W w.heap.size vs ∧ Box t W (w.heap.size + 1) us ∧ Below w.heap.size w W := by
  refine ⟨_, rfl, (Box.new w t vs).alloc _, ?_, (below_alloc _ _).alloc (by simp) _⟩
  have := Box.new (w.alloc (.cells vs t)) t us
  rw [show (w.alloc (.cells vs t)).heap.size = w.heap.size + 1 from by simp] at this
  exact this
theorem boxes2 (t : TypeId) (w : World) (vs us xs : Array Value) : ∃ W, ((w.alloc (.cells vs t)).alloc (.cells us t)).alloc (.cells xs t) = W ∧ Box t W w.heap.size vs ∧ Box t W (w.heap.size + 1) us ∧ Box t W (w.heap.size + 1 + 1) xs ∧ Below w.heap.size w W := by
  obtain ⟨W, h, h1, h2, h3⟩ := boxes1 t w vs us
  have hs : W.heap.size = w.heap.size + 2 := by rw [← h]; simp
  refine ⟨_, rfl, ?_, ?_, ?_, ?_⟩
  · rw [h]; exact h1.alloc _
  · rw [h]; exact h2.alloc _
  · rw [h, ← hs]; exact Box.new W t xs
  · rw [h]; exact h3.alloc h3.size _

end Go.Proofs.YtfhihapgjiaobaaGreat

namespace Go.Proofs.YtfhihapgjiaobaaGreat
set_option maxRecDepth 100000
open Go.RowKit
set_option linter.unusedVariables false
set_option linter.unusedSimpArgs false

set_option maxHeartbeats 1000000 in
theorem rat_isZero {w : World} {A : Option Addr} {n c : Nat} {xs : List Int} (h : Sl w A n c xs) (hn : n ≤ 1000000) :
    Calls Tryz.prog 90 #[.slice A n c] w fun e w' => e = .returned (.bool (decide (val xs = 0))) ∧ w = w' := by
  have NB := nat_bits h (by omega)
  have ez : (((blen (val xs) : Nat) : Int) == 0) = decide (val xs = 0) := by
    rw [Bool.eq_iff_iff]
    simp only [beq_iff_eq, decide_eq_true_eq]
    constructor
    · intro e
      by_cases hv : val xs = 0
      · exact hv
      · have := blen_pos (Nat.pos_of_ne_zero hv); omega
    · intro e; rw [e]; rfl
  generalize ((blen (val xs) : Nat) : Int) = bl at *
  obtain ⟨b, hb⟩ : ∃ b, decide (val xs = 0) = b := ⟨_, rfl⟩
  rw [hb] at ez ⊢
  have HN := Lib.hid NB
  clear NB hb
  go_enter Tryz.func90, Tryz.ntmps90
  go_wp2_with fail
  refine HN.out.mono ?_
  rintro e w' ⟨rfl, rfl⟩
  go_wp2_with fail
  go_ret
  exact ⟨rfl, rfl⟩

set_option maxHeartbeats 1000000 in
theorem rat_signed {w : World} {A A' : Option Addr} {n n' c c' : Nat} {p q : Nat} (s : Bool) (h : Sl w A n c (words p)) (h' : Sl w A' n' c' (words q)) (hn : n ≤ 1000000) (h0 : q ≠ 0) (hg : Nat.gcd p q = 1) :
    Calls Tryz.prog 50 #[.bool s, .slice A n c, .slice A' n' c'] w (RetQ (rq s p q) w) := by
  have Z := fun w1 (hb : Below w.heap.size w w1) => rat_isZero (h.below hb) hn
  rw [val_words] at Z
  obtain ⟨h1, h2, h3⟩ := rq_cop' (s := s) h0 hg
  have hq : ∀ w' : World, Sl w' A n c (words p) → Sl w' A' n' c' (words q) → Q w' (neg_ (rq s p q)) A n c A' n' c' (rq s p q) := fun w' a b => ⟨rfl, by rw [h1]; exact a, by rw [h2]; exact b⟩
  generalize rq s p q = X at *
  have HQ := Lib.hid hq
  have HZ := Lib.hid Z
  have HH := Lib.hid h
  have HH' := Lib.hid h'
  have H3 := Lib.hid h3
  clear hq Z h h' h1 h2 h3
  cases s
  · go_enter Tryz.func50, Tryz.ntmps50
    go_wp2_with fail
    have hs := H3.out
    rw [Bool.false_and] at hs
    refine bodyPost_ret (v := .agg #[.bool false, .slice A n c, .slice A' n' c']) (by simp [results, Tryz.results50, go_sem]) rfl ?_
    refine ⟨false, A, n, c, A', n', c', rfl, ?_, below_alloc _ _⟩
    rw [← hs]
    exact HQ.out _ (HH.out.below (below_alloc _ _)) (HH'.out.below (below_alloc _ _))
  · go_enter Tryz.func50, Tryz.ntmps50
    go_wp2_with fail
    refine (HZ.out _ ?_).mono ?_
    · exact below_alloc _ _
    rintro e w' ⟨rfl, rfl⟩
    go_wp2_with fail
    have hs := H3.out
    rw [Bool.true_and] at hs
    have hs2 : (!decide (p = 0)) = neg_ X := by rw [hs]; simp
    refine bodyPost_ret (v := .agg #[.bool (!decide (p = 0)), .slice A n c, .slice A' n' c']) (by simp [results, Tryz.results50, go_sem]) rfl ?_
    refine ⟨_, A, n, c, A', n', c', rfl, ?_, below_alloc _ _⟩
    rw [hs2]
    exact HQ.out _ (HH.out.below (below_alloc _ _)) (HH'.out.below (below_alloc _ _))

set_option maxHeartbeats 1000000 in
theorem rat_make {w : World} {A A' : Option Addr} {n n' c c' : Nat} {xs ys : List Int} (s : Bool) (h : Sl w A n c xs) (h' : Sl w A' n' c' ys) (hn : n ≤ 100000) (hn' : n' ≤ 100000) (h0 : val ys ≠ 0) :
    Calls Tryz.prog 49 #[.bool s, .slice A n c, .slice A' n' c'] w (RetQE (rq s (val xs) (val ys)) 0 w) := by
  have Z := fun w1 (hb : Below w.heap.size w w1) => rat_isZero (h'.below hb) (by omega)
  rw [decide_eq_false h0] at Z
  have RD := fun w1 (hb : Below w.heap.size w w1) => gcd_reduce (N := 100000) (h.below hb) (h'.below hb) (by omega) (by omega) (by omega)
  have hred := rq_red s (val xs) (val ys) h0
  rw [hred]
  have hp : val xs < W ^ n := val_lt_pow h.us (by have := h.len; omega)
  have hps := Nat.lt_of_le_of_lt (Nat.div_le_self (val xs) (Nat.gcd (val xs) (val ys))) hp
  have hc : Nat.gcd (val xs / Nat.gcd (val xs) (val ys)) (val ys / Nat.gcd (val xs) (val ys)) = 1 := Nat.gcd_div_gcd_div_gcd_of_pos_right (Nat.pos_of_ne_zero h0)
  have hq : val ys / Nat.gcd (val xs) (val ys) ≠ 0 := by
    have hg : 0 < Nat.gcd (val xs) (val ys) := Nat.pos_of_ne_zero fun e => h0 (Nat.eq_zero_of_gcd_eq_zero_right e)
    have := Nat.div_pos (Nat.le_of_dvd (Nat.pos_of_ne_zero h0) (Nat.gcd_dvd_right (val xs) (val ys))) hg
    omega
  generalize val xs / Nat.gcd (val xs) (val ys) = p at *
  generalize val ys / Nat.gcd (val xs) (val ys) = q at *
  have HZ := Lib.hid Z
  have HR := Lib.hid RD
  have HC := Lib.hid hc
  have HP := Lib.hid hps
  clear Z RD h0 hred hc hps hp
  go_enter Tryz.func49, Tryz.ntmps49
  go_wp2_with fail
  refine (HZ.out _ (below_alloc _ _)).mono ?_
  rintro e w' ⟨rfl, rfl⟩
  go_wp2_with fail
  refine (HR.out _ (below_alloc _ _)).mono ?_
  rintro e w1 ⟨A1, n1, c1, A2, n2, c2, rfl, s1, s2, b1⟩
  have l1 : n1 ≤ n := s1.small HP.out
  go_wp2_with fail
  refine (rat_signed s s1 s2 (by omega) hq HC.out).mono ?_
  rintro e w2 ⟨s', A3, n3, c3, A4, n4, c4, rfl, q3, b2⟩
  have B2 := ((Box.new w 45 _).below' b1).below' b2
  obtain ⟨⟨k0, k1, k2⟩, f0, f1, f2⟩ := B2.three
  go_wp2_with fail
  refine bodyPost_ret (v := .tuple #[.agg #[.bool s', .slice A3 n3 c3, .slice A4 n4 c4], .int .i64 0]) (by simp [results, Tryz.results49, go_sem, k0, k1, k2]) rfl ?_
  exact ⟨_, _, _, _, _, _, _, rfl, q3.put3 ⟨_, _, _, _, _, _, _, B2⟩, below_put3 ((below_alloc w _).trans ((b1.trans (b2.mono b1.size)).mono (by simp))) (Nat.le_refl _) (Nat.le_refl _) _ _ _⟩

set_option maxHeartbeats 1000000 in
theorem rat_neg {w : World} {s : Bool} {A A' : Option Addr} {n n' c c' : Nat} {X : Rat} (h : Q w s A n c A' n' c' X) (hn : n ≤ 100000) (hn' : n' ≤ 100000) :
    Calls Tryz.prog 66 #[.agg #[.bool s, .slice A n c, .slice A' n' c']] w (RetQ (-X) w) := by
  obtain ⟨W, hW, B0, B1, hb0⟩ := boxes1 45 w #[.bool s, .slice A n c, .slice A' n' c'] #[.bool false, .slice none 0 0, .slice none 0 0]
  have T1 := fun w1 (hb : Below W.heap.size W w1) => nat_trim (h.2.1.below (hb0.trans (hb.mono hb0.size))) (by omega)
  have T2 := fun w1 (hb : Below W.heap.size W w1) => nat_trim (h.2.2.below (hb0.trans (hb.mono hb0.size))) (by omega)
  rw [val_words] at T1 T2
  have hneg := neg_rq X
  rw [← h.1] at hneg
  have SG := fun (w1 : World) (A A' : Option Addr) (n n' c c' : Nat) (a : Sl w1 A n c (words X.num.natAbs)) (b : Sl w1 A' n' c' (words X.den)) (hl : n ≤ 1000000) => rat_signed (!s) a b hl (den_ne X) (gcd_num_den X)
  rw [hneg] at SG
  have hS : ∀ w', Below W.heap.size W w' → w'.cell? ⟨w.heap.size, 0, none⟩ = some (.bool s) ∧ w'.cell? ⟨w.heap.size, 1, none⟩ = some (.slice A n c) ∧ w'.cell? ⟨w.heap.size, 2, none⟩ = some (.slice A' n' c') := fun w' hb => (B0.below' hb).three.1
  generalize -X = Y at *
  have len1 := h.2.1.len
  have sm : ∀ (w1 : World) (A1 : Option Addr) (n1 c1 : Nat), Sl w1 A1 n1 c1 (words X.num.natAbs) → n1 ≤ 1000000 := by
    intro w1 A1 n1 c1 a
    have := a.len
    omega
  generalize X.num.natAbs = p at *
  generalize X.den = q at *
  have HT1 := Lib.hid T1
  have HT2 := Lib.hid T2
  have HSG := Lib.hid SG
  have HS := Lib.hid hS
  have HB0 := Lib.hid B0
  have HB1 := Lib.hid B1
  have HW := Lib.hid hW
  have HM := Lib.hid sm
  clear T1 T2 SG hS B0 B1 hW hneg sm len1 h
  go_enter Tryz.func66, Tryz.ntmps66
  go_wp2_with fail
  rw [HW.out]
  clear HW
  obtain ⟨k0, k1, k2⟩ := HS.out _ (Below.refl _ W)
  go_region_held3 (fun w' => w'.cell? ⟨w.heap.size, 0, none⟩ = some (.bool s) ∧ w'.cell? ⟨w.heap.size, 1, none⟩ = some (.slice A n c) ∧ w'.cell? ⟨w.heap.size, 2, none⟩ = some (.slice A' n' c')) (first | exact HS.out _ (Below.refl _ W).drew | exact HS4.out | exact HS.out _ x3 | exact HS.out _ x2 | exact HS.out _ x1 | fail)
    (first
      | (go_at_call 88; (with_reducible refine (HT1.out _ ?hb1).mono ?_); (case hb1 => exact (Below.refl _ W).drew); rintro e w1 ⟨A1, n1, c1, rfl, t1, b1⟩; have x1 : Below W.heap.size W w1 := (Below.undrew b1))
      | (go_at_call 88; (with_reducible refine (HT2.out _ ?hb2).mono ?_); (case hb2 => exact x1); rintro e w2 ⟨A2, n2, c2, rfl, t2, b2⟩; have x2 : Below W.heap.size W w2 := x1.trans (b2.mono x1.size))
      | (go_at_call 50; (with_reducible refine (HSG.out _ _ _ _ _ _ _ (t1.below b2) t2 (HM.out _ _ _ _ t1)).mono ?_); rintro e w3 ⟨s3, A3, n3, c3, A4, n4, c4, rfl, q3, b3⟩; have x3 : Below W.heap.size W w3 := x2.trans (b3.mono x2.size); have B3 := HB1.out.below' x3; have HS4 := Lib.hid (((HB0.out.below' x3).put3 (show w.heap.size ≠ w.heap.size + 1 by omega) (.bool s3) (.slice A3 n3 c3) (.slice A4 n4 c4)).three.1); obtain ⟨⟨r0, r1, r2⟩, f0, f1, f2⟩ := B3.three))
  all_goals
    go_wp2_with fail
    refine bodyPost_ret (v := .agg #[.bool s3, .slice A3 n3 c3, .slice A4 n4 c4]) (by simp [results, Tryz.results66, go_sem, r0, r1, r2]) rfl ?_
    exact ⟨_, _, _, _, _, _, _, rfl, q3.put3 ⟨_, _, _, _, _, _, _, B3⟩, below_put3 (bb hb0 x3) (by omega) (Nat.le_refl _) _ _ _⟩

theorem of_rq (z : Int) : rq (decide (z < 0)) z.natAbs 1 = (z : Rat) := by
  unfold rq
  have e : sI (decide (z < 0)) z.natAbs = z := by unfold sI; by_cases h : z < 0 <;> simp [h] <;> omega
  rw [e]
  have := Rat.mkRat_self (z : Rat)
  simpa using this
set_option maxHeartbeats 1000000 in
theorem rat_of (z : Int) (hz1 : -9223372036854775808 ≤ z) (hz2 : z ≤ 9223372036854775807) (w : World) :
    Calls Tryz.prog 65 #[.int .i64 z] w (RetQ (z : Rat) w) := by
  have O := fun w1 => nat_of (z.natAbs : Int) (by unfold U; omega) w1
  have O1 := fun w1 => nat_of 1 (by unfold U; omega) w1
  rw [Int.toNat_natCast] at O
  rw [show (1 : Int).toNat = 1 from rfl] at O1
  have hp : z.natAbs < W ^ 1 := by rw [Nat.pow_one]; unfold W; omega
  have SG := fun (w1 : World) (A A' : Option Addr) (n n' c c' : Nat) (a : Sl w1 A n c (words z.natAbs)) (b : Sl w1 A' n' c' (words 1)) => rat_signed (decide (z < 0)) a b (by have := a.small hp; omega) (by omega) (Nat.gcd_one_right _)
  rw [of_rq] at SG
  have B1 := Box.new w 45 #[.bool false, .slice none 0 0, .slice none 0 0]
  have hb1 := below_alloc w (.cells #[.bool false, .slice none 0 0, .slice none 0 0] 45)
  generalize (z : Rat) = X at *
  by_cases hz : z < 0
  · have e : IntKind.u64.wrap (-(IntKind.u64.wrap z)) = (z.natAbs : Int) := by rw [wrapU, wrapU]; omega
    rw [decide_eq_true hz] at SG
    generalize ((z.natAbs : Nat) : Int) = m at *
    have HO := Lib.hid O
    have HO1 := Lib.hid O1
    have HSG := Lib.hid SG
    have HB1 := Lib.hid B1
    clear O O1 SG hp B1
    go_enter Tryz.func65, Tryz.ntmps65
    go_wp2_with fail
    refine (HO.out _).mono ?_
    rintro _ w1 ⟨A1, n1, c1, rfl, t1, b1⟩
    go_wp2_with fail
    refine (HO1.out _).mono ?_
    rintro _ w2 ⟨A2, n2, c2, rfl, t2, b2⟩
    go_wp2_with fail
    refine (HSG.out _ _ _ _ _ _ _ (t1.below b2) t2).mono ?_
    rintro _ w3 ⟨s3, A3, n3, c3, A4, n4, c4, rfl, q3, b3⟩
    have x3 := bb b1 (bb b2 b3)
    have B3 := HB1.out.below' x3
    obtain ⟨⟨r0, r1, r2⟩, f0, f1, f2⟩ := B3.three
    go_wp2_with fail
    refine bodyPost_ret (v := .agg #[.bool s3, .slice A3 n3 c3, .slice A4 n4 c4]) (by simp [results, Tryz.results65, go_sem, r0, r1, r2]) rfl ?_
    exact ⟨_, _, _, _, _, _, _, rfl, q3.put3 ⟨_, _, _, _, _, _, _, B3⟩, below_put3 (bb hb1 x3) (by omega) (Nat.le_refl _) _ _ _⟩
  · have e : IntKind.u64.wrap z = (z.natAbs : Int) := by rw [wrapU]; omega
    have hzz : ((z.natAbs : Nat) : Int) = z := by omega
    rw [hzz] at O e
    rw [decide_eq_false hz] at SG
    have HO := Lib.hid O
    have HO1 := Lib.hid O1
    have HSG := Lib.hid SG
    have HB1 := Lib.hid B1
    clear O O1 SG hp B1 hzz
    go_enter Tryz.func65, Tryz.ntmps65
    go_wp2_with fail
    refine (HO.out _).mono ?_
    rintro _ w1 ⟨A1, n1, c1, rfl, t1, b1⟩
    go_wp2_with fail
    refine (HO1.out _).mono ?_
    rintro _ w2 ⟨A2, n2, c2, rfl, t2, b2⟩
    go_wp2_with fail
    refine (HSG.out _ _ _ _ _ _ _ (t1.below b2) t2).mono ?_
    rintro _ w3 ⟨s3, A3, n3, c3, A4, n4, c4, rfl, q3, b3⟩
    have x3 := bb b1 (bb b2 b3)
    have B3 := HB1.out.below' x3
    obtain ⟨⟨r0, r1, r2⟩, f0, f1, f2⟩ := B3.three
    go_wp2_with fail
    refine bodyPost_ret (v := .agg #[.bool s3, .slice A3 n3 c3, .slice A4 n4 c4]) (by simp [results, Tryz.results65, go_sem, r0, r1, r2]) rfl ?_
    exact ⟨_, _, _, _, _, _, _, rfl, q3.put3 ⟨_, _, _, _, _, _, _, B3⟩, below_put3 (bb hb1 x3) (by omega) (Nat.le_refl _) _ _ _⟩

end Go.Proofs.YtfhihapgjiaobaaGreat
