/-
  The walks of the laws of layer 5: each returns true for any numbers. Conditions: the slices read as lists of words.
-/
import Derived.Test.YtmoahgiklgicgaaDoorRefDivAll
namespace Go.Proofs.YtmoahgiklgicgaaDoor
set_option maxRecDepth 100000
open Go.RowKit
set_option linter.unusedVariables false
set_option linter.unusedSimpArgs false

theorem words_single {x : Int} (hx : U x) (h : 0 < x) : words x.toNat = [x] := by
  rw [← val_one x, words_val (Dg_U (by intro y hy; simp at hy; subst hy; exact hx)), trim_cons]
  simp [sz]
  omega
theorem shr_odd (v : Nat) : v / 2 ^ ((tz v : Nat) : Int).toNat = odd v := by rw [Int.toNat_natCast]; rfl
theorem tz_small {v N : Nat} (h : v < W ^ N) (hN : N ≤ 1000) : tz v ≤ 65536 := by
  have : v < 2 ^ (64 * N + 1) := by
    rw [W_pow, ← Nat.pow_mul] at h
    exact Nat.lt_of_lt_of_le h (Nat.pow_le_pow_right (by omega) (by omega))
  have := tz_lt this (by omega)
  omega

/-- the two numbers, odd, of a round -/
def Odds (G N X Y : Nat) : Prop := X % 2 = 1 ∧ Y % 2 = 1 ∧ X < W ^ N ∧ Y < W ^ N ∧ Nat.gcd X Y = G
theorem Odds.less {G N X Y : Nat} (h : Odds G N X Y) (hl : Y < X) : Odds G N (odd (X - Y)) Y ∧ odd (X - Y) + Y < X + Y := by
  obtain ⟨hx, hy, hX, hY, hg⟩ := h
  obtain ⟨h1, h2, h3⟩ := gcd_round hx hy hl
  exact ⟨⟨h2, hy, by omega, hY, by rw [h1]; exact hg⟩, by omega⟩
theorem Odds.swap {G N X Y : Nat} (h : Odds G N X Y) : Odds G N Y X := by
  obtain ⟨hx, hy, hX, hY, hg⟩ := h
  exact ⟨hy, hx, hY, hX, by rw [Nat.gcd_comm]; exact hg⟩

set_option maxHeartbeats 2000000 in
theorem ref_gcd {w : World} {A A' : Option Addr} {n n' c c' N : Nat} {xs ys : List Int} (h : Sl w A n c xs) (h' : Sl w A' n' c' ys) (hn : n ≤ N) (hn' : n' ≤ N) (hN : N ≤ 1000) :
    Calls Tryd.prog 89 #[.slice A n c, .slice A' n' c'] w (RetSl (words (Nat.gcd (val xs) (val ys))) w) := by
  have va : val xs < W ^ N := val_lt_pow h.us (by have := h.len; omega)
  have vb : val ys < W ^ N := val_lt_pow h'.us (by have := h'.len; omega)
  have za : val xs = 0 ↔ sz xs = 0 := valB_zero_iff W_pos (Dg_U h.us)
  have zb : val ys = 0 ↔ sz ys = 0 := valB_zero_iff W_pos (Dg_U h'.us)
  have ZA := ref_size h (by omega)
  have ZB := ref_size h' (by omega)
  by_cases ha : sz xs = 0
  · rw [ha] at ZA
    rw [za.2 ha, Nat.gcd_zero_left]
    have HT := Lib.hid (ref_trim h' (by omega))
    have HZ := Lib.hid ZA
    clear ZA ZB va vb za zb ha
    go_enter Tryd.func89, Tryd.ntmps89
    go_wp2_with fail
    refine HZ.out.mono ?_
    rintro e w' ⟨rfl, rfl⟩
    go_wp2_with fail
    refine HT.out.mono ?_
    rintro e w1 ⟨A1, n1, c1, rfl, s1, b1⟩
    go_wp2_with fail
    go_ret
    exact ⟨_, _, _, rfl, s1, b1⟩
  by_cases hb : sz ys = 0
  · rw [hb] at ZB
    rw [zb.2 hb, Nat.gcd_zero_right]
    have HT := Lib.hid (ref_trim h (by omega))
    have ha0 : ((sz xs : Int) == 0) = false := by simp; omega
    generalize ((sz xs : Nat) : Int) = p at *
    have HZ := Lib.hid ZA
    have HZB := Lib.hid ZB
    clear ZA ZB va vb za zb hb
    go_enter Tryd.func89, Tryd.ntmps89
    go_wp2_with fail
    refine HZ.out.mono ?_
    rintro e w' ⟨rfl, rfl⟩
    go_wp2_with fail
    refine HZB.out.mono ?_
    rintro e w' ⟨rfl, rfl⟩
    go_wp2_with fail
    refine HT.out.mono ?_
    rintro e w1 ⟨A1, n1, c1, rfl, s1, b1⟩
    go_wp2_with fail
    go_ret
    exact ⟨_, _, _, rfl, s1, b1⟩
  by_cases h11 : sz xs = 1 ∧ sz ys = 1
  · have hva := val_short (Dg_U h.us) (by omega)
    have hvb := val_short (Dg_U h'.us) (by omega)
    have hl1 : 0 < n := by have := sz_le xs; have := h.len; omega
    have hl2 : 0 < n' := by have := sz_le ys; have := h'.len; omega
    obtain ⟨p1, o1, rfl, _, hc1⟩ := h.at_ (k := 0) hl1
    obtain ⟨p2, o2, rfl, _, hc2⟩ := h'.at_ (k := 0) hl2
    have k1 := hc1 0 hl1
    have k2 := hc2 0 hl2
    rw [Nat.add_zero] at k1 k2
    have hg : GW (Nat.gcd (val xs) (val ys)) (xs.getD 0 0) (ys.getD 0 0) := ⟨h.u 0, h'.u 0, by rw [hva, hvb]⟩
    have hgp : 0 < Nat.gcd (val xs) (val ys) := Nat.gcd_pos_of_pos_left _ (Nat.pos_of_ne_zero (fun e => ha (za.1 e)))
    rw [h11.1] at ZA
    rw [h11.2] at ZB
    generalize Nat.gcd (val xs) (val ys) = G at *
    generalize xs.getD 0 0 = x0 at *
    generalize ys.getD 0 0 = y0 at *
    have HZ := Lib.hid ZA
    have HZB := Lib.hid ZB
    have HG := Lib.hid hg
    have HGP := Lib.hid hgp
    clear ZA ZB va vb za zb ha hb hg hgp hva hvb h11 hc1 hc2 h h'
    go_enter Tryd.func89, Tryd.ntmps89
    go_wp2_with fail
    refine HZ.out.mono ?_
    rintro e w' ⟨rfl, rfl⟩
    go_wp2_with fail
    refine HZB.out.mono ?_
    rintro e w' ⟨rfl, rfl⟩
    go_wp2_with fail
    refine HZ.out.mono ?_
    rintro e w' ⟨rfl, rfl⟩
    go_wp2_with fail
    refine HZB.out.mono ?_
    rintro e w' ⟨rfl, rfl⟩
    go_wp2_with fail
    go_region
    go_wp2_with fail
    go_loopw [5, 6] (fun dv rv wr => ∃ (d r : Int), dv = .int .u64 d ∧ rv = .int .u64 r ∧ Hid (GW G d r) ∧ Below w.heap.size w wr) (fun _ rv _ => (intOf rv).toNat)
    case atStart => exact ⟨_, _, rfl, rfl, HG, (Below.refl _ _).drew⟩
    case round =>
      clear HG k1 k2 HZ HZB
      obtain ⟨d, r, rfl, rfl, HG, hb⟩ := hrel
      by_cases hr : r = 0
      · subst hr
        have hd := HG.out.1
        have he := HG.out.end_
        have hw : words G = [d] := by rw [← he]; exact words_single hd (by have := HGP.out; omega)
        have HW := Lib.hid hw
        have HD := Lib.hid hd
        clear hw hd he
        go_wp2_with fail
        go_ret
        exact ⟨_, _, _, rfl, by rw [HW.out]; exact sl_lit _ d HD.out, hb.alloc hb.size _⟩
      · have hrp : 0 < r := by have := HG.out.2.1; unfold U at this; omega
        have hne : (r == 0) = false := by simp [hr]
        obtain ⟨hs1, hs2⟩ := HG.out.step hr
        have HS1 := Lib.hid hs1
        have HS2 := Lib.hid hs2
        clear hs1 hs2
        go_wp2_with fail
        go_region
        go_wp2_with fail
        go_roundw
        case rel => exact ⟨_, _, rfl, rfl, HS1, hb.drew⟩
        case measure => exact HS2.out
  have ha0 : ((sz xs : Int) == 0) = false := by simp; omega
  have hb0 : ((sz ys : Int) == 0) = false := by simp; omega
  have hna : val xs ≠ 0 := fun e => ha (za.1 e)
  have hnb : val ys ≠ 0 := fun e => hb (zb.1 e)
  have EA := fun w1 (hb : Below w.heap.size w w1) => ref_even (h.below hb) (by omega)
  have EB := fun w1 (hb : Below w.heap.size w w1) => ref_even (h'.below hb) (by omega)
  have ta := tz_small va hN
  have tb := tz_small vb hN
  have RA := fun w1 (hb : Below w.heap.size w w1) => ref_shr (h.below hb) (by omega) (tz (val xs) : Nat) (by omega)
  have RB := fun w1 (hb : Below w.heap.size w w1) => ref_shr (h'.below hb) (by omega) (tz (val ys) : Nat) (by omega)
  rw [shr_odd] at RA RB
  have od : Odds (Nat.gcd (odd (val xs)) (odd (val ys))) N (odd (val xs)) (odd (val ys)) := ⟨(odd_eq hna).2, (odd_eq hnb).2, Nat.lt_of_le_of_lt (odd_le _) va, Nat.lt_of_le_of_lt (odd_le _) vb, rfl⟩
  rw [gcd_start hna hnb]
  generalize Nat.gcd (odd (val xs)) (odd (val ys)) = G at *
  generalize odd (val xs) = X0 at *
  generalize odd (val ys) = Y0 at *
  obtain ⟨t1, et1⟩ : ∃ t, tz (val xs) = t := ⟨_, rfl⟩
  obtain ⟨t2, et2⟩ : ∃ t, tz (val ys) = t := ⟨_, rfl⟩
  rw [et1, et2]
  rw [et1] at EA RA ta
  rw [et2] at EB RB tb
  obtain ⟨m, em⟩ : ∃ m, min t1 t2 = m := ⟨_, rfl⟩
  have emi : (t1 ≤ t2 ∧ m = t1) ∨ (t2 < t1 ∧ m = t2) := by omega
  have hm : m ≤ 65536 := by omega
  rw [em]
  have hmm : clampS (m : Int) = m := by rw [clampS_mid (by omega) (by omega)]; omega
  have HEA := Lib.hid EA
  have HEB := Lib.hid EB
  have HRA := Lib.hid RA
  have HRB := Lib.hid RB
  have HOD := Lib.hid od
  have HMM := Lib.hid hmm
  have HZ := Lib.hid ZA
  have HZB := Lib.hid ZB
  clear ZA ZB va vb za zb hna hnb EA EB RA RB od ta tb et1 et2 em h h' hmm
  rcases emi with ⟨hle, rfl⟩ | ⟨hle, rfl⟩
  all_goals
    by_cases h1 : sz xs = 1
    · have hb1 : ((sz ys : Int) == 1) = false := by simp; omega
      rw [h1] at HZ
      generalize ((sz ys : Nat) : Int) = q at *
      clear ha hb h11 h1 ha0
      go_enter Tryd.func89, Tryd.ntmps89
      go_wp2_with fail
      refine HZ.out.mono ?_
      rintro e w' ⟨rfl, rfl⟩
      go_wp2_with fail
      refine HZB.out.mono ?_
      rintro e w' ⟨rfl, rfl⟩
      go_wp2_with fail
      refine HZ.out.mono ?_
      rintro e w' ⟨rfl, rfl⟩
      go_wp2_with fail
      refine HZB.out.mono ?_
      rintro e w' ⟨rfl, rfl⟩
      go_wp2_with fail
      refine (HEA.out _ (Below.refl _ _)).mono ?_
      rintro e w' ⟨rfl, rfl⟩
      go_wp2_with fail
      refine (HEB.out _ (Below.refl _ _)).mono ?_
      rintro e w' ⟨rfl, rfl⟩
      go_wp2_with fail
      refine (HEA.out _ (Below.refl _ _)).mono ?_
      rintro e w' ⟨rfl, rfl⟩
      go_wp2_with fail
      refine (HRA.out _ (Below.refl _ _)).mono ?_
      rintro e w1 ⟨A1, n1, c1, rfl, s1, b1⟩
      go_wp2_with fail
      refine (HEB.out _ b1).mono ?_
      rintro e w' ⟨rfl, rfl⟩
      go_wp2_with fail
      refine (HRB.out _ b1).mono ?_
      rintro e w2 ⟨A2, n2, c2, rfl, s2, b2⟩
      have hb2 := b1.trans (b2.mono b1.size)
      have s1' := s1.below b2
      clear s1 b1 b2 HEA HEB HRA HRB HZ HZB
      go_wp2_with fail
      go_loopw [8, 9] (fun xv yv wr => ∃ (X Y : Nat) (A A' : Option Addr) (n n' c c' : Nat), xv = .slice A n c ∧ yv = .slice A' n' c' ∧ Sl wr A n c (words X) ∧ Sl wr A' n' c' (words Y) ∧ Hid (Odds G N X Y) ∧ Below w.heap.size w wr) (fun xv yv wr => mesV xv wr + mesV yv wr)
      case atStart => exact ⟨_, _, _, _, _, _, _, _, rfl, rfl, s1', s2, HOD, hb2⟩
      case round =>
        clear s1' s2 HOD hb2
        obtain ⟨X, Y, A, A', n, n', c, c', rfl, rfl, sx, sy, HO, hb⟩ := hrel
        have lx : n ≤ N := sx.small HO.out.2.2.1
        have ly : n' ≤ N := sy.small HO.out.2.2.2.1
        have hmx := mesV_val sx
        have hmy := mesV_val sy
        rw [val_words] at hmx hmy
        have CM := ref_cmp sx sy (by omega) (by omega)
        rw [val_words, val_words] at CM
        have HMX := Lib.hid hmx
        have HMY := Lib.hid hmy
        clear hmx hmy
        rcases Nat.lt_trichotomy X Y with hlt | heq | hgt
        · rw [cmpN_lt hlt] at CM
          obtain ⟨ho, hms⟩ := HO.out.swap.less hlt
          have SB := ref_nsub sy sx (by omega) (by omega) (by rw [val_words, val_words]; omega)
          rw [val_words, val_words] at SB
          have hsm : Y - X < W ^ N := Nat.lt_of_le_of_lt (Nat.sub_le _ _) HO.out.2.2.2.1
          have HC := Lib.hid CM
          have HSB := Lib.hid SB
          have HNO := Lib.hid ho
          have HMS := Lib.hid hms
          have HSM := Lib.hid hsm
          clear CM SB ho hms hsm hlt sy
          go_wp2_with fail
          refine HC.out.mono ?_
          rintro e w' ⟨rfl, rfl⟩
          go_wp2_with fail
          refine HSB.out.mono ?_
          rintro e w3 ⟨A3, n3, c3, rfl, s3, b3⟩
          have l3 : n3 ≤ N := s3.small HSM.out
          have hb3 := hb.trans (b3.mono hb.size)
          have sx3 := sx.below b3
          have EV := ref_even s3 (by omega)
          have SR := ref_shr s3 (by omega) (tz (Y - X) : Nat) (by have := tz_small HSM.out hN; omega)
          rw [val_words] at EV SR
          rw [shr_odd] at SR
          generalize ((tz (Y - X) : Nat) : Int) = tt at EV SR
          have HEV := Lib.hid EV
          have HSR := Lib.hid SR
          clear EV SR s3 b3 sx HSB
          go_wp2_with fail
          refine HEV.out.mono ?_
          rintro e w' ⟨rfl, rfl⟩
          go_wp2_with fail
          refine HSR.out.mono ?_
          rintro e w4 ⟨A4, n4, c4, rfl, s4, b4⟩
          have hb4 := hb3.trans (b4.mono hb3.size)
          have sx4 := sx3.below b4
          have m4 := mesV_val s4
          have mx4 := mesV_val sx4
          rw [val_words] at m4 mx4
          have HM4 := Lib.hid m4
          have HMX4 := Lib.hid mx4
          clear m4 mx4 HEV HSR b4 sx3
          go_wp2_with fail
          go_roundw
          case rel => exact ⟨_, _, _, _, _, _, _, _, rfl, rfl, s4, sx4, HNO, hb4⟩
          case measure => rw [HM4.out, HMX4.out, HMX.out, HMY.out]; have := HMS.out; omega
        · subst heq
          rw [cmpN_eq] at CM
          have SL := ref_shl sx (by omega) (m : Int)
          have hG : X = G := by have := HO.out.2.2.2.2; rw [Nat.gcd_self] at this; exact this
          rw [val_words, HMM.out, hG] at SL
          have HC := Lib.hid CM
          have HSL := Lib.hid SL
          clear CM SL hG
          go_wp2_with fail
          refine HC.out.mono ?_
          rintro e w' ⟨rfl, rfl⟩
          go_wp2_with fail
          refine HSL.out.mono ?_
          rintro e w3 ⟨A3, n3, c3, rfl, s3, b3⟩
          go_wp2_with fail
          go_ret
          exact ⟨_, _, _, rfl, s3, hb.trans (b3.mono hb.size)⟩
        · rw [cmpN_gt hgt] at CM
          obtain ⟨ho, hms⟩ := HO.out.less hgt
          have SB := ref_nsub sx sy (by omega) (by omega) (by rw [val_words, val_words]; omega)
          rw [val_words, val_words] at SB
          have hsm : X - Y < W ^ N := Nat.lt_of_le_of_lt (Nat.sub_le _ _) HO.out.2.2.1
          have HC := Lib.hid CM
          have HSB := Lib.hid SB
          have HNO := Lib.hid ho
          have HMS := Lib.hid hms
          have HSM := Lib.hid hsm
          clear CM SB ho hms hsm hgt sx
          go_wp2_with fail
          refine HC.out.mono ?_
          rintro e w' ⟨rfl, rfl⟩
          go_wp2_with fail
          refine HSB.out.mono ?_
          rintro e w3 ⟨A3, n3, c3, rfl, s3, b3⟩
          have l3 : n3 ≤ N := s3.small HSM.out
          have hb3 := hb.trans (b3.mono hb.size)
          have sy3 := sy.below b3
          have EV := ref_even s3 (by omega)
          have SR := ref_shr s3 (by omega) (tz (X - Y) : Nat) (by have := tz_small HSM.out hN; omega)
          rw [val_words] at EV SR
          rw [shr_odd] at SR
          generalize ((tz (X - Y) : Nat) : Int) = tt at EV SR
          have HEV := Lib.hid EV
          have HSR := Lib.hid SR
          clear EV SR s3 b3 sy HSB
          go_wp2_with fail
          refine HEV.out.mono ?_
          rintro e w' ⟨rfl, rfl⟩
          go_wp2_with fail
          refine HSR.out.mono ?_
          rintro e w4 ⟨A4, n4, c4, rfl, s4, b4⟩
          have hb4 := hb3.trans (b4.mono hb3.size)
          have sy4 := sy3.below b4
          have m4 := mesV_val s4
          have my4 := mesV_val sy4
          rw [val_words] at m4 my4
          have HM4 := Lib.hid m4
          have HMY4 := Lib.hid my4
          clear m4 my4 HEV HSR b4 sy3
          go_wp2_with fail
          go_roundw
          case rel => exact ⟨_, _, _, _, _, _, _, _, rfl, rfl, s4, sy4, HNO, hb4⟩
          case measure => rw [HM4.out, HMY4.out, HMX.out, HMY.out]; have := HMS.out; omega
    · have ha1 : ((sz xs : Int) == 1) = false := by simp; omega
      generalize ((sz ys : Nat) : Int) = q at *
      generalize ((sz xs : Nat) : Int) = p at *
      clear ha hb h11 h1
      go_enter Tryd.func89, Tryd.ntmps89
      go_wp2_with fail
      refine HZ.out.mono ?_
      rintro e w' ⟨rfl, rfl⟩
      go_wp2_with fail
      refine HZB.out.mono ?_
      rintro e w' ⟨rfl, rfl⟩
      go_wp2_with fail
      refine HZ.out.mono ?_
      rintro e w' ⟨rfl, rfl⟩
      go_wp2_with fail
      refine (HEA.out _ (Below.refl _ _)).mono ?_
      rintro e w' ⟨rfl, rfl⟩
      go_wp2_with fail
      refine (HEB.out _ (Below.refl _ _)).mono ?_
      rintro e w' ⟨rfl, rfl⟩
      go_wp2_with fail
      refine (HEA.out _ (Below.refl _ _)).mono ?_
      rintro e w' ⟨rfl, rfl⟩
      go_wp2_with fail
      refine (HRA.out _ (Below.refl _ _)).mono ?_
      rintro e w1 ⟨A1, n1, c1, rfl, s1, b1⟩
      go_wp2_with fail
      refine (HEB.out _ b1).mono ?_
      rintro e w' ⟨rfl, rfl⟩
      go_wp2_with fail
      refine (HRB.out _ b1).mono ?_
      rintro e w2 ⟨A2, n2, c2, rfl, s2, b2⟩
      have hb2 := b1.trans (b2.mono b1.size)
      have s1' := s1.below b2
      clear s1 b1 b2 HEA HEB HRA HRB HZ HZB
      go_wp2_with fail
      go_loopw [8, 9] (fun xv yv wr => ∃ (X Y : Nat) (A A' : Option Addr) (n n' c c' : Nat), xv = .slice A n c ∧ yv = .slice A' n' c' ∧ Sl wr A n c (words X) ∧ Sl wr A' n' c' (words Y) ∧ Hid (Odds G N X Y) ∧ Below w.heap.size w wr) (fun xv yv wr => mesV xv wr + mesV yv wr)
      case atStart => exact ⟨_, _, _, _, _, _, _, _, rfl, rfl, s1', s2, HOD, hb2⟩
      case round =>
        clear s1' s2 HOD hb2
        obtain ⟨X, Y, A, A', n, n', c, c', rfl, rfl, sx, sy, HO, hb⟩ := hrel
        have lx : n ≤ N := sx.small HO.out.2.2.1
        have ly : n' ≤ N := sy.small HO.out.2.2.2.1
        have hmx := mesV_val sx
        have hmy := mesV_val sy
        rw [val_words] at hmx hmy
        have CM := ref_cmp sx sy (by omega) (by omega)
        rw [val_words, val_words] at CM
        have HMX := Lib.hid hmx
        have HMY := Lib.hid hmy
        clear hmx hmy
        rcases Nat.lt_trichotomy X Y with hlt | heq | hgt
        · rw [cmpN_lt hlt] at CM
          obtain ⟨ho, hms⟩ := HO.out.swap.less hlt
          have SB := ref_nsub sy sx (by omega) (by omega) (by rw [val_words, val_words]; omega)
          rw [val_words, val_words] at SB
          have hsm : Y - X < W ^ N := Nat.lt_of_le_of_lt (Nat.sub_le _ _) HO.out.2.2.2.1
          have HC := Lib.hid CM
          have HSB := Lib.hid SB
          have HNO := Lib.hid ho
          have HMS := Lib.hid hms
          have HSM := Lib.hid hsm
          clear CM SB ho hms hsm hlt sy
          go_wp2_with fail
          refine HC.out.mono ?_
          rintro e w' ⟨rfl, rfl⟩
          go_wp2_with fail
          refine HSB.out.mono ?_
          rintro e w3 ⟨A3, n3, c3, rfl, s3, b3⟩
          have l3 : n3 ≤ N := s3.small HSM.out
          have hb3 := hb.trans (b3.mono hb.size)
          have sx3 := sx.below b3
          have EV := ref_even s3 (by omega)
          have SR := ref_shr s3 (by omega) (tz (Y - X) : Nat) (by have := tz_small HSM.out hN; omega)
          rw [val_words] at EV SR
          rw [shr_odd] at SR
          generalize ((tz (Y - X) : Nat) : Int) = tt at EV SR
          have HEV := Lib.hid EV
          have HSR := Lib.hid SR
          clear EV SR s3 b3 sx HSB
          go_wp2_with fail
          refine HEV.out.mono ?_
          rintro e w' ⟨rfl, rfl⟩
          go_wp2_with fail
          refine HSR.out.mono ?_
          rintro e w4 ⟨A4, n4, c4, rfl, s4, b4⟩
          have hb4 := hb3.trans (b4.mono hb3.size)
          have sx4 := sx3.below b4
          have m4 := mesV_val s4
          have mx4 := mesV_val sx4
          rw [val_words] at m4 mx4
          have HM4 := Lib.hid m4
          have HMX4 := Lib.hid mx4
          clear m4 mx4 HEV HSR b4 sx3
          go_wp2_with fail
          go_roundw
          case rel => exact ⟨_, _, _, _, _, _, _, _, rfl, rfl, s4, sx4, HNO, hb4⟩
          case measure => rw [HM4.out, HMX4.out, HMX.out, HMY.out]; have := HMS.out; omega
        · subst heq
          rw [cmpN_eq] at CM
          have SL := ref_shl sx (by omega) (m : Int)
          have hG : X = G := by have := HO.out.2.2.2.2; rw [Nat.gcd_self] at this; exact this
          rw [val_words, HMM.out, hG] at SL
          have HC := Lib.hid CM
          have HSL := Lib.hid SL
          clear CM SL hG
          go_wp2_with fail
          refine HC.out.mono ?_
          rintro e w' ⟨rfl, rfl⟩
          go_wp2_with fail
          refine HSL.out.mono ?_
          rintro e w3 ⟨A3, n3, c3, rfl, s3, b3⟩
          go_wp2_with fail
          go_ret
          exact ⟨_, _, _, rfl, s3, hb.trans (b3.mono hb.size)⟩
        · rw [cmpN_gt hgt] at CM
          obtain ⟨ho, hms⟩ := HO.out.less hgt
          have SB := ref_nsub sx sy (by omega) (by omega) (by rw [val_words, val_words]; omega)
          rw [val_words, val_words] at SB
          have hsm : X - Y < W ^ N := Nat.lt_of_le_of_lt (Nat.sub_le _ _) HO.out.2.2.1
          have HC := Lib.hid CM
          have HSB := Lib.hid SB
          have HNO := Lib.hid ho
          have HMS := Lib.hid hms
          have HSM := Lib.hid hsm
          clear CM SB ho hms hsm hgt sx
          go_wp2_with fail
          refine HC.out.mono ?_
          rintro e w' ⟨rfl, rfl⟩
          go_wp2_with fail
          refine HSB.out.mono ?_
          rintro e w3 ⟨A3, n3, c3, rfl, s3, b3⟩
          have l3 : n3 ≤ N := s3.small HSM.out
          have hb3 := hb.trans (b3.mono hb.size)
          have sy3 := sy.below b3
          have EV := ref_even s3 (by omega)
          have SR := ref_shr s3 (by omega) (tz (X - Y) : Nat) (by have := tz_small HSM.out hN; omega)
          rw [val_words] at EV SR
          rw [shr_odd] at SR
          generalize ((tz (X - Y) : Nat) : Int) = tt at EV SR
          have HEV := Lib.hid EV
          have HSR := Lib.hid SR
          clear EV SR s3 b3 sy HSB
          go_wp2_with fail
          refine HEV.out.mono ?_
          rintro e w' ⟨rfl, rfl⟩
          go_wp2_with fail
          refine HSR.out.mono ?_
          rintro e w4 ⟨A4, n4, c4, rfl, s4, b4⟩
          have hb4 := hb3.trans (b4.mono hb3.size)
          have sy4 := sy3.below b4
          have m4 := mesV_val s4
          have my4 := mesV_val sy4
          rw [val_words] at m4 my4
          have HM4 := Lib.hid m4
          have HMY4 := Lib.hid my4
          clear m4 my4 HEV HSR b4 sy3
          go_wp2_with fail
          go_roundw
          case rel => exact ⟨_, _, _, _, _, _, _, _, rfl, rfl, s4, sy4, HNO, hb4⟩
          case measure => rw [HM4.out, HMY4.out, HMX.out, HMY.out]; have := HMS.out; omega

set_option maxHeartbeats 1000000 in
theorem ref_part {w : World} {A A' : Option Addr} {n n' c c' N : Nat} {xs ys : List Int} (h : Sl w A n c xs) (h' : Sl w A' n' c' ys) (hn : n ≤ N) (hn' : n' ≤ N) (hN : N ≤ 1000) :
    Calls Tryd.prog 90 #[.slice A n c, .slice A' n' c'] w (RetSl (words (val xs / val ys)) w) := by
  have zb : val ys = 0 ↔ sz ys = 0 := valB_zero_iff W_pos (Dg_U h'.us)
  have ZB := ref_size h' (by omega)
  by_cases hb : sz ys = 0
  · rw [hb] at ZB
    rw [zb.2 hb, Nat.div_zero]
    have HZ := Lib.hid ZB
    clear ZB zb hb
    go_enter Tryd.func90, Tryd.ntmps90
    go_wp2_with fail
    refine HZ.out.mono ?_
    rintro e w' ⟨rfl, rfl⟩
    go_wp2_with fail
    go_ret
    exact ⟨_, _, _, rfl, Sl.nil _ _ _, Below.refl _ _⟩
  have hb0 : ((sz ys : Int) == 0) = false := by simp; omega
  have hp : 0 < val ys := Nat.pos_of_ne_zero (fun e => hb (zb.1 e))
  generalize ((sz ys : Nat) : Int) = p at *
  have CM := ref_cmp (h'.below (below_alloc w (.cells #[.int .u64 1] 22))) (sl_lit w 1 (by unfold U; omega)) (by omega) (by omega)
  have hba := below_alloc w (.cells #[.int .u64 1] 22)
  rw [val_one, show (1 : Int).toNat = 1 from rfl] at CM
  have ez := cmpN_zero (val ys) 1
  have TR := ref_trim (h.below hba) (by omega)
  have DV := ref_div (h.below hba) (h'.below hba) (by omega) (by omega) hp
  by_cases h1 : val ys = 1
  · rw [decide_eq_true h1] at ez
    generalize cmpN (val ys) 1 = cm at *
    rw [h1, Nat.div_one]
    have HZ := Lib.hid ZB
    have HC := Lib.hid CM
    have HT := Lib.hid TR
    have HBA := Lib.hid hba
    clear ZB CM TR DV hp hba zb hb h1 h h'
    go_enter Tryd.func90, Tryd.ntmps90
    go_wp2_with fail
    refine HZ.out.mono ?_
    rintro e w' ⟨rfl, rfl⟩
    go_wp2_with fail
    refine HC.out.mono ?_
    rintro e w' ⟨rfl, rfl⟩
    go_wp2_with fail
    refine HT.out.mono ?_
    rintro e w1 ⟨A1, n1, c1, rfl, s1, b1⟩
    go_wp2_with fail
    go_ret
    exact ⟨_, _, _, rfl, s1, HBA.out.trans (b1.mono HBA.out.size)⟩
  · rw [decide_eq_false h1] at ez
    generalize cmpN (val ys) 1 = cm at *
    generalize val xs / val ys = q at *
    have HZ := Lib.hid ZB
    have HC := Lib.hid CM
    have HD := Lib.hid DV
    have HBA := Lib.hid hba
    clear ZB CM TR DV hp hba zb hb h1 h h'
    go_enter Tryd.func90, Tryd.ntmps90
    go_wp2_with fail
    refine HZ.out.mono ?_
    rintro e w' ⟨rfl, rfl⟩
    go_wp2_with fail
    refine HC.out.mono ?_
    rintro e w' ⟨rfl, rfl⟩
    go_wp2_with fail
    refine HD.out.mono ?_
    rintro e w1 ⟨A1, n1, c1, A2, n2, c2, rfl, s1, s2, b1⟩
    go_wp2_with fail
    go_ret
    exact ⟨_, _, _, rfl, s1, HBA.out.trans (b1.mono HBA.out.size)⟩

end Go.Proofs.YtmoahgiklgicgaaDoor

namespace Go.Proofs.YtmoahgiklgicgaaDoor
set_option maxRecDepth 100000
open Go.RowKit
set_option linter.unusedVariables false
set_option linter.unusedSimpArgs false

theorem words_small (v : Nat) (h0 : 0 < v) (h : v < W) : words v = [(v : Int)] := by
  have := words_single (x := (v : Int)) (by unfold U; unfold W at h; omega) (by omega)
  rwa [Int.toNat_natCast] at this
theorem gcd_ex : words (Nat.gcd (val [12]) (val [18])) = [6] ∧ words (val [12] / Nat.gcd (val [12]) (val [18])) = [2] ∧ words (val [18] / Nat.gcd (val [12]) (val [18])) = [3] := by
  have e : Nat.gcd (val [12]) (val [18]) = 6 := by decide
  have e1 : val [12] = 12 := by decide
  have e2 : val [18] = 18 := by decide
  rw [e, e1, e2, words_small 6 (by omega) (by unfold W; omega), words_small (12 / 6) (by omega) (by unfold W; omega), words_small (18 / 6) (by omega) (by unfold W; omega)]
  decide
/-- two literals of one word, one after the other -/
theorem two_lits (w : World) (x y : Int) (hx : U x) (hy : U y) : Sl ((w.alloc (.cells #[.int .u64 x] 22)).alloc (.cells #[.int .u64 y] 22)) (some ⟨w.heap.size, 0, none⟩) 1 1 [x] ∧ Sl ((w.alloc (.cells #[.int .u64 x] 22)).alloc (.cells #[.int .u64 y] 22)) (some ⟨w.heap.size + 1, 0, none⟩) 1 1 [y] ∧ Below w.heap.size w ((w.alloc (.cells #[.int .u64 x] 22)).alloc (.cells #[.int .u64 y] 22)) := by
  have s2 := sl_lit (w.alloc (.cells #[.int .u64 x] 22)) y hy
  rw [show (w.alloc (.cells #[.int .u64 x] 22)).heap.size = w.heap.size + 1 from by simp] at s2
  exact ⟨(sl_lit w x hx).below (below_alloc _ _), s2, (below_alloc w _).alloc (by simp) _⟩

theorem words_len0 (r : Nat) : (((words r).length : Int) == 0) = decide (r = 0) := by
  by_cases h : r = 0
  · subst h; rw [decide_eq_true rfl]; rfl
  · rw [decide_eq_false h]
    have : (words r).length ≠ 0 := fun e => h (by rw [← val_words r, List.eq_nil_of_length_eq_zero e]; rfl)
    simp
    intro e; rw [e] at this; simp at this

/-- the word 1 alone is the number 1 -/
theorem one_word {w : World} {A : Option Addr} {n c G : Nat} (s : Sl w A n c (words G)) : (G = 1 ∧ n = 1 ∧ ∃ p o, A = some ⟨p, o, none⟩ ∧ w.cell? ⟨p, o, none⟩ = some (.int .u64 1)) ∨ (G ≠ 1 ∧ ((n : Int) == 1) = false) ∨ (G ≠ 1 ∧ n = 1 ∧ ∃ p o x, A = some ⟨p, o, none⟩ ∧ w.cell? ⟨p, o, none⟩ = some (.int .u64 x) ∧ (x == 1) = false) := by
  by_cases hn : n = 1
  · subst hn
    obtain ⟨p, o, rfl, _, hc⟩ := s.at_ (k := 0) (by omega)
    have k := hc 0 (by omega)
    rw [Nat.add_zero] at k
    have hl := s.len
    obtain ⟨x, hx⟩ : ∃ x, words G = [x] := by
      match hw : words G, hl with
      | [x], _ => exact ⟨x, rfl⟩
    have hG : G = x.toNat := by rw [← val_words G, hx, val_one]
    have hu : U x := words_U G x (by rw [hx]; simp)
    rw [hx] at k
    simp at k
    by_cases h1 : G = 1
    · left
      refine ⟨h1, rfl, p, o, rfl, ?_⟩
      have : x = 1 := by unfold U at hu; omega
      rw [← this]; exact k
    · right; right
      refine ⟨h1, rfl, p, o, x, rfl, k, ?_⟩
      simp
      intro e
      subst e
      exact h1 (by simpa using hG)
  · by_cases h1 : G = 1
    · subst h1
      have hl := s.len
      rw [words_one] at hl
      exact absurd hl hn
    · right; left
      exact ⟨h1, by simp; omega⟩

end Go.Proofs.YtmoahgiklgicgaaDoor
