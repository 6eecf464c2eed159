/-
  What quot.Root and quot.Square return: the root, rounded down, by Newton's steps; whether a number is a square. Conditions: the slices read as lists of words, of at most 10^5 words.
-/
import Derived.Test.YtbaggejmnficgaaQuotDiv
namespace Go.Proofs.Ytbaggejmnficgaa
open Go.RowKit
set_option linter.unusedVariables false
set_option linter.unusedSimpArgs false

theorem U_nat {x : Nat} (h : x < 18446744073709551616) : U (x : Int) := by unfold U; omega
theorem two_words (k : Nat) : (List.replicate (k / 64 + 1) (0 : Int)).set (k / 64) ((2 ^ (k % 64) : Nat) : Int) = words (2 ^ k) := by
  have hp : 2 ^ (k % 64) < W := by
    rw [W_pow]; exact Nat.pow_lt_pow_right (by omega) (Nat.mod_lt _ (by omega))
  have h0 : 0 < 2 ^ (k % 64) := Nat.two_pow_pos _
  generalize hx : 2 ^ (k % 64) = x at *
  have hd : Dg W ((List.replicate (k / 64 + 1) (0 : Int)).set (k / 64) (x : Int)) := (Dg.zeros W_pos _).set _ (by omega) (by omega)
  have hv : val ((List.replicate (k / 64 + 1) (0 : Int)).set (k / 64) (x : Int)) = 2 ^ k := by
    unfold val
    rw [set_val W _ _ (by simp) x (getD_zeros _ _), valB_zeros, ← hx, pow_shift]
    omega
  have hs : sz ((List.replicate (k / 64 + 1) (0 : Int)).set (k / 64) (x : Int)) = k / 64 + 1 := by
    refine sz_unique _ _ (fun j hj => ?_) (.inr ?_)
    · rw [getD_set_ne _ (by omega)]; exact getD_zeros _ _
    · rw [Nat.add_sub_cancel, getD_set_self _ (by simp)]; omega
  rw [← hv, words_val hd, trim, hs, List.take_of_length_le (by simp)]

set_option maxHeartbeats 1000000 in
theorem quot_twoTo (k : Nat) (hk : k ≤ 1000000000) (w : World) : Calls Try.prog 54 #[.int .i64 k] w (RetSl (words (2 ^ k)) w) := by
  obtain ⟨p, hp⟩ : ∃ p, k / 64 = p := ⟨_, rfl⟩
  obtain ⟨s, hs⟩ : ∃ s, k % 64 = s := ⟨_, rfl⟩
  have tw := two_words k
  rw [hp, hs] at tw
  have e1 : (k : Int) / 64 = (p : Int) := by omega
  have e2 : (k : Int) % 64 = (s : Int) := by omega
  have hs64 : s < 64 := by omega
  have hpb : p ≤ 100000000 := by omega
  obtain ⟨w0, hmk, hr0, hb0, _⟩ := make_words w (p + 1) (by omega)
  rw [show ((p + 1 : Nat) : Int) = (p : Int) + 1 by omega] at hmk
  have hcell := hr0.cell (i := p) (by simp)
  rw [getD_zeros] at hcell
  have hfree := hr0.free p
  have hpw : 2 ^ s < 18446744073709551616 := by
    have := Nat.pow_lt_pow_right (show 1 < 2 by omega) hs64; simpa using this
  have hr1 := hr0.set p ((2 ^ s : Nat) : Int)
  rw [tw] at hr1
  have hwr : IntKind.u64.wrap ((2 : Int) ^ s) = ((2 ^ s : Nat) : Int) := by
    rw [show ((2 : Int) ^ s) = ((2 ^ s : Nat) : Int) by push_cast; rfl, wrapU_lo, lo_U]; exact U_nat hpw
  have hwr1 : IntKind.u64.wrap (1 * (2 : Int) ^ s) = ((2 ^ s : Nat) : Int) := by rw [Int.one_mul, hwr]
  have hlw : (words (2 ^ k)).length = p + 1 := by rw [← tw]; simp
  generalize 2 ^ s = X at *
  have HR1 := Lib.hid hr1
  have HL := Lib.hid hlw
  clear hr0 hr1 tw hlw hp hs hpw
  go_enter Try.func54, Try.ntmps54
  go_wp2_with fail
  go_ret
  have hsl := HR1.out.sl (c := p + 1) (words_U _) (by rw [HL.out]; omega)
  rw [HL.out] at hsl
  exact ⟨_, _, _, rfl, hsl, hb0.setCell (Nat.le_refl _) _⟩

theorem half_add {a b k : Nat} (ha : a < W ^ k) (hb : b < W ^ k) : (a + b) / 2 < W ^ k := by omega

set_option maxHeartbeats 1000000 in
theorem quot_root {w : World} {A : Option Addr} {n c : Nat} {xs : List Int} (h : Sl w A n c xs) (hn : n ≤ 100000) :
    Calls Try.prog 30 #[.slice A n c] w (RetSl (words (rt (val xs))) w) := by
  have hbl := blen_val_le h
  have hva : val xs < W ^ (n + 1) := lt_pow_mono (val_lt_pow (k := n) h.us (by have := h.len; omega)) (by omega)
  have B := nat_bits h (by omega)
  by_cases h0 : val xs = 0
  · rw [h0] at B ⊢
    rw [blen_zero] at B
    have HB := Lib.hid B
    clear B h0 hbl hva
    go_enter Try.func30, Try.ntmps30
    go_wp2_with fail
    refine HB.out.mono ?_
    rintro e w' ⟨rfl, rfl⟩
    go_wp2_with fail
    go_ret
    exact ⟨_, _, _, rfl, Sl.nil _ _ _, Below.refl _ _⟩
  · have hp := blen_pos (n := val xs) (by omega)
    have hlt := blen_lt (val xs)
    have hrp := rt_pos (a := val xs) (by omega)
    obtain ⟨L, hL⟩ : ∃ L, blen (val xs) = L := ⟨_, rfl⟩
    rw [hL] at B hp hlt hbl
    have hL0 : ((L : Int) == 0) = false := by simp; omega
    obtain ⟨k, hk⟩ : ∃ k, (L + 1) / 2 = k := ⟨_, rfl⟩
    have ek : ((L : Int) + 1) / 2 = (k : Int) := by omega
    have hst : rt (val xs) ≤ 2 ^ k := rt_start (Nat.lt_of_lt_of_le hlt (Nat.pow_le_pow_right (by omega) (by omega)))
    have hkw : 2 ^ k < W ^ (n + 1) := by
      rw [W_pow, ← Nat.pow_mul]
      exact Nat.pow_lt_pow_right (by omega) (by omega)
    have DV := fun w1 (hb : Below w.heap.size w w1) (B : Option Addr) (nb cb X : Nat) (s : Sl w1 B nb cb (words X)) (hnb : nb ≤ n + 1) (hX : 0 < X) => quot_div (h.below hb) s (by omega) (by omega) (by rw [val_words]; exact hX)
    generalize val xs = a at *
    have HB := Lib.hid B
    have HDV := Lib.hid DV
    have HTT := Lib.hid (fun w => quot_twoTo k (by omega) w)
    have HVA := Lib.hid hva
    have HKW := Lib.hid hkw
    have HST := Lib.hid hst
    have HRP := Lib.hid hrp
    clear B DV hva hkw hst hrp hlt hL hk h0
    go_enter Try.func30, Try.ntmps30
    go_wp2_with fail
    refine HB.out.mono ?_
    rintro e w' ⟨rfl, rfl⟩
    go_wp2_with fail
    refine (HTT.out _).mono ?_
    rintro e w1 ⟨A1, n1, c1, rfl, s1, b1⟩
    go_wp2_with fail
    go_loopw [4] (fun xv wr => ∃ (X : Nat) (B : Option Addr) (nb cb : Nat), xv = .slice B nb cb ∧ Sl wr B nb cb (words X) ∧ Hid (rt a ≤ X) ∧ Hid (X < W ^ (n + 1)) ∧ Below w.heap.size w wr) (fun xv wr => mesV xv wr)
    case atStart => exact ⟨2 ^ k, _, _, _, rfl, s1, HST, HKW, b1⟩
    case round =>
      clear s1 b1 HST HKW HTT
      obtain ⟨X, B, nb, cb, rfl, s, HRX, HXW, hb⟩ := hrel
      have hX : 0 < X := Nat.lt_of_lt_of_le HRP.out HRX.out
      have hnb : nb ≤ n + 1 := s.small HXW.out
      have D := HDV.out _ hb B nb cb X s hnb hX
      rw [val_words] at D
      have hqW : a / X < W ^ (n + 1) := Nat.lt_of_le_of_lt (Nat.div_le_self _ _) HVA.out
      have hge := newton_ge (a := a) hX
      have hsp := newton_stop (a := a) hX HRX.out
      have hmes := mesV_eq s
      have hnW := half_add HXW.out hqW
      have HD := Lib.hid D
      have HQW := Lib.hid hqW
      have HGE := Lib.hid hge
      have HSP := Lib.hid hsp
      have HMES := Lib.hid hmes
      have HNW := Lib.hid hnW
      clear D hqW hge hsp hmes hnW
      go_wp2_with fail
      refine HD.out.mono ?_
      rintro e w2 ⟨A2, n2, c2, A3, n3, c3, rfl, s2, s3, b2⟩
      have hb2 := hb.trans (b2.mono hb.size)
      have hn2 : n2 ≤ n + 1 := s2.small HQW.out
      have sx2 := s.below b2
      have AD := nat_add sx2 s2 (by omega) (by omega)
      rw [val_words, val_words] at AD
      have HAD := Lib.hid AD
      clear AD s3 b2 s
      go_wp2_with fail
      refine HAD.out.mono ?_
      rintro e w4 ⟨A4, n4, c4, rfl, s4, b4⟩
      have hb4 := hb2.trans (b4.mono hb2.size)
      have hn4 : n4 ≤ n + 1 + 1 := s4.small (add_lt_pow HXW.out HQW.out)
      have sx4 := sx2.below b4
      have SR := nat_shr s4 (by omega) 1 (by omega)
      rw [val_words, show (1 : Int).toNat = 1 from rfl, Nat.pow_one] at SR
      have HSR := Lib.hid SR
      clear SR s2 b4 sx2 HAD
      go_wp2_with fail
      refine HSR.out.mono ?_
      rintro e w5 ⟨A5, n5, c5, rfl, s5, b5⟩
      have hb5 := hb4.trans (b5.mono hb4.size)
      have sx5 := sx4.below b5
      have hn5 : n5 ≤ n + 1 := s5.small HNW.out
      have CM := nat_cmp s5 sx5 (by omega) (by omega)
      rw [val_words, val_words] at CM
      have hmes5 := mesV_eq s5
      have HM5 := Lib.hid hmes5
      clear s4 b5 sx4 HSR hmes5
      by_cases hlt : (X + a / X) / 2 < X
      · rw [cmpN_lt hlt] at CM
        have HCM := Lib.hid CM
        have HLT := Lib.hid hlt
        clear CM hlt
        go_wp2_with fail
        refine HCM.out.mono ?_
        rintro e w' ⟨rfl, rfl⟩
        go_wp2_with fail
        go_roundw
        case rel => exact ⟨_, _, _, _, rfl, s5, HGE, HNW, hb5⟩
        case measure => rw [HM5.out, HMES.out]; exact HLT.out
      · have hcm : 0 ≤ cmpN ((X + a / X) / 2) X := by have := cmpN_neg ((X + a / X) / 2) X; omega
        have hXr := HSP.out (by omega)
        generalize cmpN ((X + a / X) / 2) X = cm at CM hcm
        have HCM := Lib.hid CM
        have HXR := Lib.hid hXr
        have hcn : ¬ (cm < 0) := by omega
        clear CM hlt hXr
        go_wp2_with fail
        refine HCM.out.mono ?_
        rintro e w' ⟨rfl, rfl⟩
        go_wp2_with fail
        go_ret
        exact ⟨_, _, _, rfl, by rw [← HXR.out]; exact sx5, hb5⟩

set_option maxHeartbeats 1000000 in
theorem quot_square {w : World} {A : Option Addr} {n c : Nat} {xs : List Int} (h : Sl w A n c xs) (hn : n ≤ 100000) :
    Calls Try.prog 31 #[.slice A n c] w fun e w' => e = .returned (.bool (decide (rt (val xs) * rt (val xs) = val xs))) ∧ Below w.heap.size w w' := by
  have hva : val xs < W ^ n := val_lt_pow h.us (by have := h.len; omega)
  have hrl : rt (val xs) ≤ val xs := by
    have := (rt_spec (val xs)).1
    rcases Nat.eq_zero_or_pos (rt (val xs)) with e | e
    · omega
    · exact Nat.le_trans (Nat.le_mul_of_pos_right _ e) this
  have R := quot_root h hn
  have CM := fun w1 (hb : Below w.heap.size w w1) (B : Option Addr) (nb cb X : Nat) (s : Sl w1 B nb cb (words X)) (hnb : nb ≤ n + n) => nat_cmp s (h.below hb) (by omega) (by omega)
  have hrw : rt (val xs) < W ^ n := Nat.lt_of_le_of_lt hrl hva
  generalize rt (val xs) = r at *
  generalize val xs = a at *
  have HR := Lib.hid R
  have HCM := Lib.hid CM
  have HRW := Lib.hid hrw
  clear R CM hrw hrl hva
  go_enter Try.func31, Try.ntmps31
  go_wp2_with fail
  refine HR.out.mono ?_
  rintro e w1 ⟨A1, n1, c1, rfl, s1, b1⟩
  have hn1 : n1 ≤ n := s1.small HRW.out
  have M := prod_mul s1 s1 (by omega)
  rw [val_words] at M
  have HM := Lib.hid M
  clear M s1 HR
  go_wp2_with fail
  refine HM.out.mono ?_
  rintro e w2 ⟨A2, n2, c2, rfl, s2, b2⟩
  have hb2 := b1.trans (b2.mono b1.size)
  have hn2 : n2 ≤ n + n := s2.small (mul_lt_powW HRW.out HRW.out)
  have C := HCM.out _ hb2 _ _ _ _ s2 hn2
  rw [val_words] at C
  have hiff : (cmpN (r * r) a == 0) = decide (r * r = a) := by
    unfold cmpN
    by_cases e1 : r * r < a
    · rw [if_pos e1, decide_eq_false (by omega)]; rfl
    · by_cases e2 : a < r * r
      · rw [if_neg e1, if_pos e2, decide_eq_false (by omega)]; rfl
      · rw [if_neg e1, if_neg e2, decide_eq_true (by omega)]; rfl
  generalize cmpN (r * r) a = cm at *
  have HIFF := Lib.hid hiff
  have HC := Lib.hid C
  clear C s2 b2 b1 HM hiff
  go_wp2_with fail
  refine HC.out.mono ?_
  rintro e w' ⟨rfl, rfl⟩
  go_wp2_with fail
  go_ret
  exact ⟨retB HIFF.out, hb2⟩

end Go.Proofs.Ytbaggejmnficgaa
