/-
  The walks of two more laws of layer 3: each returns true for any numbers. Conditions: the slices read as lists of words; the integers fit their kind.
-/
import Derived.Test.YtbaggejmnficgaaProdLaws
import Derived.Deep.RegionHeld3
namespace Go.Proofs.Ytbaggejmnficgaa
open Go.RowKit
set_option linter.unusedVariables false
set_option linter.unusedSimpArgs false

set_option maxHeartbeats 2000000 in
theorem prodBits_walk (a0 : Option Addr) (len0 cap0 : Nat) (z0 : List Int) (a1 : Option Addr) (len1 cap1 : Nat) (z1 : List Int) (w : World) (w0 : IsRow .u64 w a0 len0 cap0 z0) (w1 : IsRow .u64 w a1 len1 cap1 z1) :
    Calls Try.prog 6 #[.slice a0 len0 cap0, .slice a1 len1 cap1] w fun e w' => e = .returned (.bool true) ∧ Below w.heap.size w w' := by
  obtain ⟨s0, _⟩ := w0.sl
  obtain ⟨s1, _⟩ := w1.sl
  clear w0 w1
  have HS := Lib.hid (fun w => same03 w)
  by_cases h0 : 40 < len0
  · go_enter Try.func6, Try.ntmps6
    go_wp2_with fail
    refine (HS.out _).mono ?_
    rintro e w' ⟨rfl, hb⟩
    go_wp2_with fail
    go_ret
    exact ⟨rfl, hb⟩
  by_cases h1 : 40 < len1
  · go_enter Try.func6, Try.ntmps6
    go_wp2_with fail
    refine (HS.out _).mono ?_
    rintro e w' ⟨rfl, hb⟩
    go_wp2_with fail
    go_ret
    exact ⟨rfl, hb⟩
  generalize z0.take len0 = xs at s0
  generalize z1.take len1 = ys at s1
  have va : val xs < W ^ 40 := val_lt_pow s0.us (by have := s0.len; omega)
  have vb : val ys < W ^ 40 := val_lt_pow s1.us (by have := s1.len; omega)
  have bl0 := blen_val_le s0
  have bl1 := blen_val_le s1
  have M := prod_mul s0 s1 (by omega)
  have B0 := fun w1 (hb : Below w.heap.size w w1) => nat_bits (s0.below hb) (by omega)
  have B1 := fun w1 (hb : Below w.heap.size w w1) => nat_bits (s1.below hb) (by omega)
  generalize val xs = a at *
  generalize val ys = b at *
  have hab : (words (a * b)).length ≤ 80 := words_length _ 80 (mul_lt_powW va vb)
  by_cases hz : a = 0 ∨ b = 0
  · have hm : a * b = 0 := by rcases hz with rfl | rfl <;> simp
    rw [hm, words_zero] at M
    have hp : a ≠ 0 → blen b = 0 := fun h => by rcases hz with rfl | rfl; exact absurd rfl h; rfl
    have HM := Lib.hid M
    have HB0 := Lib.hid B0
    have HB1 := Lib.hid B1
    clear M B0 B1 hm hab va vb
    by_cases ha : a = 0
    · subst ha
      rw [blen_zero] at HB0
      go_enter Try.func6, Try.ntmps6
      go_wp2_with fail
      refine HM.out.mono ?_
      rintro e w1 ⟨A1, n1, c1, rfl, t1, b1⟩
      obtain rfl : n1 = 0 := t1.len
      go_wp2_with fail
      refine (HB0.out _ b1).mono ?_
      rintro e w' ⟨rfl, rfl⟩
      go_wp2_with fail
      refine (HB1.out _ b1).mono ?_
      rintro e w' ⟨rfl, rfl⟩
      go_wp2_with fail
      refine (HS.out _).mono ?_
      rintro e w' ⟨rfl, hb⟩
      go_wp2_with fail
      go_ret
      exact ⟨rfl, b1.trans (hb.mono b1.size)⟩
    · have hb0 := hp ha
      rw [hb0] at HB1
      have hpa : 0 < blen a := blen_pos (by omega)
      obtain ⟨p, ep⟩ : ∃ p, blen a = p := ⟨_, rfl⟩
      rw [ep] at HB0 hpa bl0
      clear hb0 ep hp hz bl1
      go_enter Try.func6, Try.ntmps6
      go_wp2_with fail
      refine HM.out.mono ?_
      rintro e w1 ⟨A1, n1, c1, rfl, t1, b1⟩
      obtain rfl : n1 = 0 := t1.len
      have hpe : ((p : Int) == 0) = false := by simp; omega
      go_wp2_with fail
      refine (HB0.out _ b1).mono ?_
      rintro e w' ⟨rfl, rfl⟩
      go_wp2_with fail
      refine (HB1.out _ b1).mono ?_
      rintro e w' ⟨rfl, rfl⟩
      go_wp2_with fail
      refine (HS.out _).mono ?_
      rintro e w' ⟨rfl, hb⟩
      go_wp2_with fail
      go_ret
      exact ⟨rfl, b1.trans (hb.mono b1.size)⟩
  · have hpa : 0 < a := by omega
    have hpb : 0 < b := by omega
    have hm := blen_mul hpa hpb
    have p1 := blen_pos hpa
    have p2 := blen_pos hpb
    have HM := Lib.hid M
    have HB0 := Lib.hid B0
    have HB1 := Lib.hid B1
    have HV := Lib.hid (val_words (a * b))
    obtain ⟨p, ep⟩ : ∃ p, blen a = p := ⟨_, rfl⟩
    obtain ⟨q, eq⟩ : ∃ q, blen b = q := ⟨_, rfl⟩
    obtain ⟨r, er⟩ : ∃ r, blen (a * b) = r := ⟨_, rfl⟩
    rw [ep] at HB0 p1 bl0 hm
    rw [eq] at HB1 p2 bl1 hm
    rw [er] at hm
    have ER := Lib.hid er
    have HAB := Lib.hid hab
    have SZ := Lib.hid (sz_words (a * b))
    generalize words (a * b) = L at *
    clear M B0 B1 hz ep eq er va vb hpa hpb hab
    have e1 : ((p : Int) == 0) = false := by simp; omega
    have e2 : ((q : Int) == 0) = false := by simp; omega
    have hr : (((r : Int) == (p : Int) + (q : Int)) = true) ∨ (((r : Int) == (p : Int) + (q : Int)) = false ∧ ((r : Int) == (p : Int) + (q : Int) - 1) = true) := by
      rcases hm with h | h
      · exact .inl (by simp; omega)
      · exact .inr ⟨by simp; omega, by simp; omega⟩
    rcases hr with hr | ⟨hr, hr2⟩
    all_goals
      clear hm
      go_enter Try.func6, Try.ntmps6
      go_wp2_with fail
      refine HM.out.mono ?_
      rintro e w1 ⟨A1, n1, c1, rfl, t1, b1⟩
      have hn1 : n1 ≤ 80 := by rw [t1.len]; exact HAB.out
      have Bt := nat_bits t1 (by omega)
      rw [HV.out, ER.out] at Bt
      have Rt := nat_right t1 (by omega)
      rw [SZ.out, ← t1.len, decide_eq_true rfl] at Rt
      have HBt := Lib.hid Bt
      have HRt := Lib.hid Rt
      clear Bt Rt
      go_wp2_with fail
      refine (HB0.out _ b1).mono ?_
      rintro e w' ⟨rfl, rfl⟩
      go_wp2_with fail
      refine (HB1.out _ b1).mono ?_
      rintro e w' ⟨rfl, rfl⟩
      go_wp2_with fail
      refine HBt.out.mono ?_
      rintro e w' ⟨rfl, rfl⟩
      go_wp2_with fail
      try (refine HBt.out.mono ?_; rintro e w' ⟨rfl, rfl⟩; go_wp2_with fail)
      refine HRt.out.mono ?_
      rintro e w' ⟨rfl, rfl⟩
      go_wp2_with fail
      refine (HS.out _).mono ?_
      rintro e w' ⟨rfl, hb⟩
      go_wp2_with fail
      go_ret
      exact ⟨rfl, b1.trans (hb.mono b1.size)⟩

/-- the boxed pair, untouched since wx -/
def Pair (g : Nat) (x y : Int) (wx : World) : Prop := wx.cell? ⟨g, 0, none⟩ = some (.int .u64 x) ∧ wx.cell? ⟨g, 1, none⟩ = some (.int .u64 y)
/-- the law's own box -/
def Boxed (w : World) (x y : Int) (s : Value) (wx : World) : Prop := ∃ g, s = .pointer (some ⟨g, 0, none⟩) ∧ wx.cell? ⟨g, 0, none⟩ = some (.int .u64 x) ∧ wx.cell? ⟨g, 1, none⟩ = some (.int .u64 y) ∧ g < wx.heap.size ∧ Below w.heap.size w wx

set_option maxHeartbeats 4000000 in
theorem prodTells_walk (a0 : Option Addr) (len0 cap0 : Nat) (z0 : List Int) (a1 : Option Addr) (len1 cap1 : Nat) (z1 : List Int) (x y : Int) (w : World) (w0 : IsRow .u64 w a0 len0 cap0 z0) (w1 : IsRow .u64 w a1 len1 cap1 z1) (w2 : (Lit.int .u64 x).wf = true) (w3 : (Lit.int .u64 y).wf = true) :
    Calls Try.prog 3 #[.slice a0 len0 cap0, .slice a1 len1 cap1, .agg #[.int .u64 x, .int .u64 y]] w fun e w' => e = .returned (.bool true) ∧ Below w.heap.size w w' := by
  obtain ⟨s0, _⟩ := w0.sl
  obtain ⟨s1, _⟩ := w1.sl
  have ux := U_of_wf w2
  have uy := U_of_wf w3
  clear w0 w1 w2 w3
  have HS := Lib.hid (fun w => same03 w)
  by_cases h0 : 40 < len0
  · go_enter Try.func3, Try.ntmps3
    go_wp2_with fail
    refine (HS.out _).mono ?_
    rintro e w' ⟨rfl, hb⟩
    go_wp2_with fail
    go_ret
    exact ⟨rfl, (below_alloc w _).trans (hb.mono (by simp))⟩
  by_cases h1 : 40 < len1
  · go_enter Try.func3, Try.ntmps3
    go_wp2_with fail
    refine (HS.out _).mono ?_
    rintro e w' ⟨rfl, hb⟩
    go_wp2_with fail
    go_ret
    exact ⟨rfl, (below_alloc w _).trans (hb.mono (by simp))⟩
  generalize z0.take len0 = xs at s0
  generalize z1.take len1 = ys at s1
  have va : val xs < W ^ 40 := val_lt_pow s0.us (by have := s0.len; omega)
  have vb : val ys < W ^ 40 := val_lt_pow s1.us (by have := s1.len; omega)
  have C1 := fun w1 (hb : Below w.heap.size w w1) => prod_mul (s0.below hb) (s1.below hb) (by omega)
  have C2 := fun w1 (hb : Below w.heap.size w w1) => ref_nmul (s0.below hb) (s1.below hb) (by omega) (by omega)
  have C3 := fun w1 (hb : Below w.heap.size w w1) => prod_word (s0.below hb) (by omega) x y ux uy
  have C4 := fun w1 (hb : Below w.heap.size w w1) => ref_pword (s0.below hb) (by omega) x y ux uy
  have l1 : (words (val xs * val ys)).length ≤ 80 := words_length _ 80 (mul_lt_powW va vb)
  have l2 : (words (val xs * x.toNat + y.toNat)).length ≤ 42 := by
    refine words_length _ 42 (add_lt_pow (mul_lt_powW va (show x.toNat < W ^ 1 by have := ux.1; have := ux.2; rw [Nat.pow_one]; unfold W; omega)) (lt_pow_mono (show y.toNat < W ^ 1 by have := uy.1; have := uy.2; rw [Nat.pow_one]; unfold W; omega) (by omega)))
  generalize words (val xs * val ys) = L1 at *
  generalize words (val xs * x.toNat + y.toNat) = L2 at *
  have H1 := Lib.hid C1
  have H2 := Lib.hid C2
  have H3 := Lib.hid C3
  have H4 := Lib.hid C4
  have HL1 := Lib.hid l1
  have HL2 := Lib.hid l2
  clear C1 C2 C3 C4 l1 l2 va vb ux uy
  go_enter Try.func3, Try.ntmps3
  go_upto_region 3 with (fail)
  have hc0 : (w.alloc (.cells #[.int .u64 x, .int .u64 y] 24)).cell? ⟨w.heap.size, 0, none⟩ = some (.int .u64 x) := by rw [cell_of_row _ _ 0 _ _ (0, 0) (heap_alloc_new w _)]; rfl
  have hc1 : (w.alloc (.cells #[.int .u64 x, .int .u64 y] 24)).cell? ⟨w.heap.size, 1, none⟩ = some (.int .u64 y) := by rw [cell_of_row _ _ 1 _ _ (0, 0) (heap_alloc_new w _)]; rfl
  have hg : w.heap.size < (w.alloc (.cells #[.int .u64 x, .int .u64 y] 24)).heap.size := by simp
  have hb0 : Below w.heap.size w (w.alloc (.cells #[.int .u64 x, .int .u64 y] 24)) := below_alloc w _
  generalize w.alloc (.cells #[.int .u64 x, .int .u64 y] 24) = wx at hc0 hc1 hg hb0 ⊢
  have hSx : ∀ w', Below wx.heap.size wx w' → (w'.cell? ⟨w.heap.size, 0, none⟩ = some (.int .u64 x) ∧ w'.cell? ⟨w.heap.size, 1, none⟩ = some (.int .u64 y)) := fun w' hb => ⟨(hb.cell (p := ⟨w.heap.size, 0, none⟩) hg).trans hc0, (hb.cell (p := ⟨w.heap.size, 1, none⟩) hg).trans hc1⟩
  have HSX := Lib.hid hSx
  clear hSx hc0 hc1
  have x0 : Below wx.heap.size wx wx.drew := (Below.refl _ _).drew
  go_region_held3 (fun w' => w'.cell? ⟨w.heap.size, 0, none⟩ = some (.int .u64 x) ∧ w'.cell? ⟨w.heap.size, 1, none⟩ = some (.int .u64 y)) (first | exact HSX.out _ (by assumption))
    (first
      | (go_at_call 13; (with_reducible refine (H1.out _ (hb0.trans (x0.mono hb0.size))).mono ?_); rintro e w1 ⟨A1, n1, c1, rfl, t1, b1⟩; have x1 := x0.trans (b1.mono x0.size))
      | (go_at_call 14; (with_reducible refine (H2.out _ (hb0.trans (x1.mono hb0.size))).mono ?_); rintro e w2 ⟨A2, n2, c2, rfl, t2, b2⟩; have x2 := x1.trans (b2.mono x1.size))
      | (go_at_call 15; (with_reducible refine (H3.out _ (hb0.trans (x3.mono hb0.size))).mono ?_); rintro e w4 ⟨A4, n4, c4, rfl, t4, b4⟩; have x4 := x3.trans (b4.mono x3.size))
      | (go_at_call 16; (with_reducible refine (H4.out _ (hb0.trans (x4.mono hb0.size))).mono ?_); rintro e w5 ⟨A5, n5, c5, rfl, t5, b5⟩; have x5 := x4.trans (b5.mono x4.size))
      | (go_at_call 12; have W1 := plain_words (t1.below b2) t2 (by have := t1.len; have := HL1.out; omega) (by have := t2.len; have := HL1.out; omega); rw [decide_eq_true rfl] at W1; (with_reducible refine W1.mono ?_); rintro e w3 ⟨rfl, k3, rfl⟩; have x3 := Below.drewN' x2 k3)
      | (go_at_call 12; have W2 := plain_words (t4.below b5) t5 (by have := t4.len; have := HL2.out; omega) (by have := t5.len; have := HL2.out; omega); rw [decide_eq_true rfl] at W2; (with_reducible refine W2.mono ?_); rintro e w6 ⟨rfl, k6, rfl⟩; have x6 := Below.drewN' x5 k6)
      | (go_at_call 11; (with_reducible refine (HS.out _).mono ?_); rintro e w7 ⟨rfl, b7⟩; have x7 := x6.trans (b7.mono x6.size)))
  all_goals
    go_wp2_with fail
    go_ret
    exact ⟨rfl, hb0.trans (x7.mono hb0.size)⟩

end Go.Proofs.Ytbaggejmnficgaa
