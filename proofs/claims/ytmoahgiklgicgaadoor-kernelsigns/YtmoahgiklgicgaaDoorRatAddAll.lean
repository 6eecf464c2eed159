/-
  The order of doubles by their words, the integer nearest to a double, and doubles times powers of 2, plainly. Conditions: as each lemma says.
-/
import Derived.Test.YtmoahgiklgicgaaDoorRfSumAll
import Derived.IntWalk
import Derived.Test.YtmoahgiklgicgaaDoorFltRatAll
import Derived.Test.YtmoahgiklgicgaaDoorFpMathAll
import Derived.Test.YtmoahgiklgicgaaDoorRefShiftAll
import Derived.Test.YtmoahgiklgicgaaDoorFsMathAll
namespace Go.Proofs.YtmoahgiklgicgaaDoor
set_option maxRecDepth 100000
open Go.RowKit
set_option linter.unusedVariables false
set_option linter.unusedSimpArgs false

theorem sI_abs (s : Bool) (p : Nat) (z : Int) (h : sI s p = z) : sI s z.natAbs = z ∧ z.natAbs = p := by
  have : z.natAbs = p := by rw [← h, sI_natAbs]
  exact ⟨by rw [this]; exact h, this⟩

end Go.Proofs.YtmoahgiklgicgaaDoor

namespace Go.Proofs.YtmoahgiklgicgaaDoor
set_option maxRecDepth 100000
open Go.RowKit
set_option linter.unusedVariables false
set_option linter.unusedSimpArgs false

end Go.Proofs.YtmoahgiklgicgaaDoor

namespace Go.Proofs.YtmoahgiklgicgaaDoor
set_option maxRecDepth 100000
open Go.RowKit
set_option linter.unusedVariables false
set_option linter.unusedSimpArgs false

/-- -1, 0 or 1 -/
def cmpI (a b : Int) : Int := if a < b then -1 else if b < a then 1 else 0
theorem same_Q {w : World} {s t : Bool} {A A' B B' : Option Addr} {n n' c c' m m' d d' : Nat} {X Y : Rat} (h : Q w s A n c A' n' c' X) (k : Q w t B m d B' m' d' Y) :
    decide (s = t ∧ words X.num.natAbs = words Y.num.natAbs ∧ words X.den = words Y.den) = decide (X = Y) := by
  rw [Bool.eq_iff_iff]
  simp only [decide_eq_true_eq]
  constructor
  · rintro ⟨e1, e2, e3⟩
    exact rat_ext (by rw [← h.1, ← k.1, e1]) (words_inj e2) (words_inj e3)
  · rintro rfl
    exact ⟨by rw [h.1, k.1], rfl, rfl⟩
end Go.Proofs.YtmoahgiklgicgaaDoor

namespace Go.Proofs.YtmoahgiklgicgaaDoor
set_option maxRecDepth 100000
open Go.RowKit
set_option linter.unusedVariables false
set_option linter.unusedSimpArgs false

theorem words_nil_iff' {R n : Nat} (h : n = (words R).length) : n = 0 ↔ R = 0 := by
  have := words_len0 R
  rw [← h] at this
  rw [Bool.eq_iff_iff] at this
  simp at this
  exact this

set_option maxRecDepth 100000 in
set_option maxHeartbeats 4000000 in
theorem ref_make {w : World} {A A' : Option Addr} {n n' c c' N : Nat} {xs ys : List Int} (s : Bool) (h : Sl w A n c xs) (h' : Sl w A' n' c' ys) (hn : n ≤ N) (hn' : n' ≤ N) (hN : N ≤ 1000) (h0 : val ys ≠ 0) :
    Calls Tryd.prog 76 #[.bool s, .slice A n c, .slice A' n' c'] w (RetQ (rq s (val xs) (val ys)) w) := by
  have za : val xs = 0 ↔ sz xs = 0 := valB_zero_iff W_pos (Dg_U h.us)
  have Z := fun w1 (hb : Below w.heap.size w w1) => ref_size (h.below hb) (by omega)
  obtain ⟨r1, r2, r3⟩ := rq_num s (val xs) (val ys) h0
  by_cases hz : val xs = 0
  · rw [za.1 hz] at Z
    have e1 : rq s (val xs) (val ys) = 0 := by
      unfold rq; rw [hz, sI_zero]; exact Rat.zero_mkRat _
    rw [e1]
    have HZ := Lib.hid Z
    clear Z r1 r2 r3 hz za e1
    have hs := sl_lit (w.alloc (.cells #[.bool false, .slice none 0 0, .slice (some ⟨w.heap.size + 1, 0, none⟩) 1 1] 51)) 1 U_1
    rw [show (w.alloc (.cells #[.bool false, .slice none 0 0, .slice (some ⟨w.heap.size + 1, 0, none⟩) 1 1] 51)).heap.size = w.heap.size + 1 from by simp] at hs
    have HSL := Lib.hid hs
    clear hs
    go_enter Tryd.func76, Tryd.ntmps76
    go_wp2_with fail
    refine (HZ.out _ (below_alloc _ _)).mono ?_
    rintro _ _ ⟨rfl, rfl⟩
    go_wp2_with fail
    refine bodyPost_ret (v := .agg #[.bool false, .slice none 0 0, .slice (some ⟨w.heap.size + 1, 0, none⟩) 1 1]) (by simp [results, Tryd.results76, go_sem]) rfl ?_
    refine ⟨_, _, _, _, _, _, _, rfl, ⟨rfl, Sl.nil _ _ _, ?_⟩, (below_alloc _ _).alloc (by simp) _⟩
    rw [show (0 : Rat).den = 1 from rfl, words_one]
    exact HSL.out
  · have hne : ((sz xs : Int) == 0) = false := by
      have : sz xs ≠ 0 := fun e => hz (za.2 e)
      simp; omega
    have G := fun w1 (hb : Below w.heap.size w w1) => ref_gcd (N := N) (h.below hb) (h'.below hb) hn hn' hN
    have P1 := fun w1 (hb : Below w.heap.size w w1) (C : Option Addr) (a b g : Nat) (x : Sl w1 C a b (words g)) (hl : a ≤ N) => ref_part (N := N) (h.below hb) x hn hl hN
    have P2 := fun w1 (hb : Below w.heap.size w w1) (C : Option Addr) (a b g : Nat) (x : Sl w1 C a b (words g)) (hl : a ≤ N) => ref_part (N := N) (h'.below hb) x hn' hl hN
    simp only [val_words] at P1 P2
    have va : val xs < W ^ N := val_lt_pow h.us (by have := h.len; omega)
    have vb : val ys < W ^ N := val_lt_pow h'.us (by have := h'.len; omega)
    have vg := gcd_lt va vb
    have hpz : val xs / Nat.gcd (val xs) (val ys) ≠ 0 := by
      have hg : 0 < Nat.gcd (val xs) (val ys) := Nat.pos_of_ne_zero fun e => h0 (Nat.eq_zero_of_gcd_eq_zero_right e)
      have := Nat.div_pos (Nat.le_of_dvd (Nat.pos_of_ne_zero hz) (Nat.gcd_dvd_left (val xs) (val ys))) hg
      omega
    rw [decide_eq_true hpz, Bool.and_true] at r3
    have hq : ∀ (w1 : World) (C C' : Option Addr) (a b a' b' : Nat), Sl w1 C a b (words (val xs / Nat.gcd (val xs) (val ys))) → Sl w1 C' a' b' (words (val ys / Nat.gcd (val xs) (val ys))) → Q w1 s C a b C' a' b' (rq s (val xs) (val ys)) := fun w1 C C' a b a' b' x y => ⟨r3.symm, by rw [r1]; exact x, by rw [r2]; exact y⟩
    generalize rq s (val xs) (val ys) = X at *
    generalize Nat.gcd (val xs) (val ys) = g at *
    generalize val xs = p at *
    generalize val ys = q at *
    generalize ((sz xs : Nat) : Int) = zz at *
    have HZ := Lib.hid Z
    have HG := Lib.hid G
    have HP1 := Lib.hid P1
    have HP2 := Lib.hid P2
    have HQ := Lib.hid hq
    have HVG := Lib.hid vg
    have Br := Box.new w 51 #[.bool false, .slice none 0 0, .slice none 0 0]
    have HBr := Lib.hid Br
    clear Z G P1 P2 hq vg va vb hpz r1 r2 r3 za hz Br h h' h0
    go_enter Tryd.func76, Tryd.ntmps76
    go_wp2_with fail
    refine (HZ.out _ (below_alloc _ _)).mono ?_
    rintro _ _ ⟨rfl, rfl⟩
    go_wp2_with fail
    refine (HG.out _ (below_alloc _ _)).mono ?_
    rintro _ w1 ⟨A1, n1, c1, rfl, t1, b1⟩
    have l1 : n1 ≤ N := t1.small HVG.out
    have x1 := bb (below_alloc w _) b1
    go_wp2_with fail
    refine (HP1.out _ x1 _ _ _ _ t1 l1).mono ?_
    rintro _ w2 ⟨A2, n2, c2, rfl, t2, b2⟩
    have x2 := bb x1 b2
    go_wp2_with fail
    refine (HP2.out _ x2 _ _ _ _ (t1.below b2) l1).mono ?_
    rintro _ w3 ⟨A3, n3, c3, rfl, t3, b3⟩
    have x3 := bb x2 b3
    have B9 := HBr.out.below' (bb b1 (bb b2 b3))
    have q7 := HQ.out _ _ _ _ _ _ _ (t2.below b3) t3
    obtain ⟨⟨r0, r1, r2⟩, f0, f1, f2⟩ := B9.three
    go_wp2_with fail
    refine bodyPost_ret (v := .agg #[.bool s, .slice A2 n2 c2, .slice A3 n3 c3]) (by simp [results, Tryd.results76, go_sem, r0, r1, r2]) rfl ?_
    exact ⟨_, _, _, _, _, _, _, rfl, q7.put3 ⟨_, _, _, _, _, _, _, B9⟩, below_put3 x3 (by omega) (Nat.le_refl _) _ _ _⟩

end Go.Proofs.YtmoahgiklgicgaaDoor

namespace Go.Proofs.YtmoahgiklgicgaaDoor
set_option maxRecDepth 100000
open Go.RowKit
set_option linter.unusedVariables false
set_option linter.unusedSimpArgs false

/-- is a number valid? -/
def rightB (s : Bool) (xs ys : List Int) : Bool := decide (sz xs = xs.length ∧ sz ys = ys.length ∧ val ys ≠ 0 ∧ ¬ (s = true ∧ val xs = 0) ∧ Nat.gcd (val xs) (val ys) = 1)
theorem right_no1 {s : Bool} {xs ys : List Int} (h : ¬ sz xs = xs.length) : rightB s xs ys = false := decide_eq_false fun e => h e.1
theorem right_no2 {s : Bool} {xs ys : List Int} (h : ¬ sz ys = ys.length) : rightB s xs ys = false := decide_eq_false fun e => h e.2.1
theorem right_no3 {s : Bool} {xs ys : List Int} (h : val ys = 0) : rightB s xs ys = false := decide_eq_false fun e => e.2.2.1 h
theorem right_no4 {s : Bool} {xs ys : List Int} (h : s = true ∧ val xs = 0) : rightB s xs ys = false := decide_eq_false fun e => e.2.2.2.1 h
theorem right_yes {s : Bool} {xs ys : List Int} (h1 : sz xs = xs.length) (h2 : sz ys = ys.length) (h3 : val ys ≠ 0) (h4 : ¬ (s = true ∧ val xs = 0)) : rightB s xs ys = decide (Nat.gcd (val xs) (val ys) = 1) := by
  unfold rightB
  rw [Bool.eq_iff_iff]
  simp only [decide_eq_true_eq]
  exact ⟨fun e => e.2.2.2.2, fun e => ⟨h1, h2, h3, h4, e⟩⟩
/-- a valid number is a number of Lean's own -/
theorem right_Q {w : World} {s : Bool} {A A' : Option Addr} {n n' c c' N : Nat} {xs ys : List Int} (h : Sl w A n c xs) (h' : Sl w A' n' c' ys) (hn : n ≤ N) (hn' : n' ≤ N) (hr : rightB s xs ys = true) :
    ∃ X, Q w s A n c A' n' c' X ∧ Sz X N ∧ X = rq s (val xs) (val ys) := by
  unfold rightB at hr
  rw [decide_eq_true_eq] at hr
  obtain ⟨h1, h2, h3, h4, h5⟩ := hr
  obtain ⟨r1, r2, r3⟩ := rq_cop' (s := s) h3 h5
  have t1 : words (val xs) = xs := by rw [words_val (Dg_U h.us)]; unfold trim; rw [h1, List.take_length]
  have t2 : words (val ys) = ys := by rw [words_val (Dg_U h'.us)]; unfold trim; rw [h2, List.take_length]
  refine ⟨rq s (val xs) (val ys), ⟨?_, ?_, ?_⟩, ⟨?_, ?_⟩, rfl⟩
  · rw [r3]
    cases s
    · rfl
    · have : val xs ≠ 0 := fun e => h4 ⟨rfl, e⟩
      simp [this]
  · rw [r1, t1]; exact h
  · rw [r2, t2]; exact h'
  · rw [r1]; exact val_lt_pow h.us (by have := h.len; omega)
  · rw [r2]; exact val_lt_pow h'.us (by have := h'.len; omega)
/-- .. and back -/
theorem Q_right {w : World} {s : Bool} {A A' : Option Addr} {n n' c c' : Nat} {X : Rat} (h : Q w s A n c A' n' c' X) : rightB s (words X.num.natAbs) (words X.den) = true := by
  unfold rightB
  rw [decide_eq_true_eq, val_words, val_words]
  have sw : ∀ v, sz (words v) = (words v).length := fun v => by
    have e := words_trim v
    unfold trim at e
    have e2 := congrArg List.length e
    rw [List.length_take] at e2
    have := sz_le (words v)
    omega
  refine ⟨sw _, sw _, den_ne X, ?_, gcd_num_den X⟩
  rintro ⟨e1, e2⟩
  have := h.1
  rw [e1, neg_zero_ X e2] at this
  cases this

/-- the world behind a result's box and two words -/
theorem lits2 (w : World) (us : Array Value) (x y : Int) (hx : U x) (hy : U y) : ∃ V, ((w.alloc (.cells us 51)).alloc (.cells #[.int .u64 x] 22)).alloc (.cells #[.int .u64 y] 22) = V ∧ Box 51 V w.heap.size us ∧ Sl V (some ⟨w.heap.size + 1, 0, none⟩) 1 1 [x] ∧ Sl V (some ⟨w.heap.size + 1 + 1, 0, none⟩) 1 1 [y] ∧ Below w.heap.size w V := by
  refine ⟨_, rfl, ((Box.new w _ us).alloc _).alloc _, ?_, ?_, ((below_alloc _ _).alloc (by simp) _).alloc (by simp; omega) _⟩
  · have := (sl_lit (w.alloc (.cells us 51)) x hx).below (below_alloc _ (.cells #[.int .u64 y] 22))
    rw [show (w.alloc (.cells us 51)).heap.size = w.heap.size + 1 from by simp] at this
    exact this
  · have := sl_lit ((w.alloc (.cells us 51)).alloc (.cells #[.int .u64 x] 22)) y hy
    rw [show ((w.alloc (.cells us 51)).alloc (.cells #[.int .u64 x] 22)).heap.size = w.heap.size + 1 + 1 from by simp] at this
    exact this

set_option maxRecDepth 100000 in
set_option maxHeartbeats 4000000 in
theorem ref_of (z : Int) (hz1 : -9223372036854775808 ≤ z) (hz2 : z ≤ 9223372036854775807) (w : World) :
    Calls Tryd.prog 55 #[.int .i64 z] w (RetQ (z : Rat) w) := by
  have hu : U (z.natAbs : Int) := by unfold U; omega
  obtain ⟨V, hW, Br, s1, s2, hb0⟩ := lits2 w #[.bool false, .slice none 0 0, .slice none 0 0] (z.natAbs : Int) 1 hu U_1
  have MK := ref_make (N := 1) (decide (z < 0)) s1 s2 (by omega) (by omega) (by omega) (by rw [val_one]; decide)
  rw [val_one, val_one, Int.toNat_natCast, show (1 : Int).toNat = 1 from rfl, of_rq] at MK
  generalize (z : Rat) = X at *
  by_cases hz : z < 0
  · have e : IntKind.u64.wrap (-(IntKind.u64.wrap z)) = (z.natAbs : Int) := by rw [wrapU, wrapU]; omega
    rw [decide_eq_true hz] at MK
    generalize ((z.natAbs : Nat) : Int) = m at *
    have HMK := Lib.hid MK
    have HW := Lib.hid hW
    have HBr := Lib.hid Br
    clear MK hW Br s1 s2 hu
    go_enter Tryd.func55, Tryd.ntmps55
    go_wp2_with fail
    rw [HW.out]
    refine HMK.out.mono ?_
    rintro _ w3 ⟨s3, A3, n3, c3, A4, n4, c4, rfl, q3, x3⟩
    have B3 := HBr.out.below' x3
    obtain ⟨⟨r0, r1, r2⟩, f0, f1, f2⟩ := B3.three
    go_wp2_with fail
    refine bodyPost_ret (v := .agg #[.bool s3, .slice A3 n3 c3, .slice A4 n4 c4]) (by simp [results, Tryd.results55, go_sem, r0, r1, r2]) rfl ?_
    exact ⟨_, _, _, _, _, _, _, rfl, q3.put3 ⟨_, _, _, _, _, _, _, B3⟩, below_put3 (bb hb0 x3) (by omega) (Nat.le_refl _) _ _ _⟩
  · have e : IntKind.u64.wrap z = (z.natAbs : Int) := by rw [wrapU]; omega
    have hzz : ((z.natAbs : Nat) : Int) = z := by omega
    rw [hzz] at hW e
    rw [decide_eq_false hz] at MK
    have HMK := Lib.hid MK
    have HW := Lib.hid hW
    have HBr := Lib.hid Br
    clear MK hW Br s1 s2 hu hzz
    go_enter Tryd.func55, Tryd.ntmps55
    go_wp2_with fail
    rw [HW.out]
    refine HMK.out.mono ?_
    rintro _ w3 ⟨s3, A3, n3, c3, A4, n4, c4, rfl, q3, x3⟩
    have B3 := HBr.out.below' x3
    obtain ⟨⟨r0, r1, r2⟩, f0, f1, f2⟩ := B3.three
    go_wp2_with fail
    refine bodyPost_ret (v := .agg #[.bool s3, .slice A3 n3 c3, .slice A4 n4 c4]) (by simp [results, Tryd.results55, go_sem, r0, r1, r2]) rfl ?_
    exact ⟨_, _, _, _, _, _, _, rfl, q3.put3 ⟨_, _, _, _, _, _, _, B3⟩, below_put3 (bb hb0 x3) (by omega) (Nat.le_refl _) _ _ _⟩

end Go.Proofs.YtmoahgiklgicgaaDoor

namespace Go.Proofs.YtmoahgiklgicgaaDoor
set_option maxRecDepth 100000
open Go.RowKit
set_option linter.unusedVariables false
set_option linter.unusedSimpArgs false

theorem box0 (t : TypeId) (w : World) (vs : Array Value) : ∃ V, w.alloc (.cells vs t) = V ∧ Box t V w.heap.size vs ∧ Below w.heap.size w V := ⟨_, rfl, Box.new w t vs, below_alloc _ _⟩
theorem sl_word {w : World} {A : Option Addr} {n c v : Nat} (h : Sl w A n c (words v)) (h0 : 0 < v) (h1 : v < W) : n = 1 ∧ ∃ p o, A = some ⟨p, o, none⟩ ∧ p < w.heap.size ∧ w.cell? ⟨p, o, none⟩ = some (.int .u64 (v : Int)) := by
  rw [words_small v h0 h1] at h
  have hl : n = 1 := h.len
  subst hl
  obtain ⟨b, off, e, hb, hc⟩ := h.at_ (k := 0) (by omega)
  exact ⟨rfl, b, off, e, hb, hc 0 (by omega)⟩
theorem sz_of (z : Int) (h1 : -9223372036854775808 ≤ z) (h2 : z ≤ 9223372036854775807) : Sz (z : Rat) 1 := by
  refine ⟨?_, ?_⟩
  · rw [Nat.pow_one, Rat.num_intCast]; unfold W; omega
  · rw [Nat.pow_one, Rat.den_intCast]; unfold W; omega
theorem lits (w : World) (x y : Int) (hx : U x) (hy : U y) : ∃ V, (w.alloc (.cells #[.int .u64 x] 22)).alloc (.cells #[.int .u64 y] 22) = V ∧ Sl V (some ⟨w.heap.size, 0, none⟩) 1 1 [x] ∧ Sl V (some ⟨w.heap.size + 1, 0, none⟩) 1 1 [y] ∧ Below w.heap.size w V := by
  refine ⟨_, rfl, ?_, ?_, ((below_alloc _ _).alloc (by simp) _)⟩
  · exact (sl_lit w x hx).below (below_alloc _ (.cells #[.int .u64 y] 22))
  · have := sl_lit (w.alloc (.cells #[.int .u64 x] 22)) y hy
    rw [show (w.alloc (.cells #[.int .u64 x] 22)).heap.size = w.heap.size + 1 from by simp] at this
    exact this

theorem right07_Q {w : World} {s : Bool} {A A' : Option Addr} {n n' c c' : Nat} {xs ys : List Int} (h : Sl w A n c xs) (h' : Sl w A' n' c' ys) (hr : (decide (n ≤ 6 ∧ n' ≤ 6) && rightB s xs ys) = true) :
    ∃ X, Q w s A n c A' n' c' X ∧ Sz X 6 := by
  rw [Bool.and_eq_true, decide_eq_true_eq] at hr
  obtain ⟨X, h1, h2, _⟩ := right_Q h h' hr.1.1 hr.1.2 hr.2
  exact ⟨X, h1, h2⟩

end Go.Proofs.YtmoahgiklgicgaaDoor

namespace Go.Proofs.YtmoahgiklgicgaaDoor
set_option maxRecDepth 100000
open Go.RowKit
set_option linter.unusedVariables false
set_option linter.unusedSimpArgs false

theorem dq_parts {b : Nat} (h : fld b < 2047) : sig b * 2 ^ clampS (xpo b) < W ^ 18 ∧ 2 ^ clampS (-(xpo b)) < W ^ 18 ∧ 2 ^ clampS (-(xpo b)) ≠ 0 := by
  obtain ⟨h1, h2⟩ := xpo_range h
  have hs := sig_lt b
  refine ⟨?_, ?_, by have := Nat.two_pow_pos (clampS (-(xpo b))); omega⟩
  · have hc : clampS (xpo b) ≤ 64 * 17 := by
      rcases Int.lt_or_le (xpo b) 0 with hl | hl
      · rw [clampS_neg hl]; omega
      · rw [clampS_mid hl (by omega)]; omega
    exact mul_lt_pow (a := sig b) (k := 1) (l := 17) (by rw [Nat.pow_one]; unfold W; omega) hc
  · have hc : clampS (-(xpo b)) ≤ 64 * 17 := by
      rcases Int.lt_or_le (-(xpo b)) 0 with hl | hl
      · rw [clampS_neg hl]; omega
      · rw [clampS_mid hl (by omega)]; omega
    have := mul_lt_pow (a := 1) (k := 1) (l := 17) (by rw [Nat.pow_one]; unfold W; omega) hc
    rwa [Nat.one_mul] at this

end Go.Proofs.YtmoahgiklgicgaaDoor

namespace Go.Proofs.YtmoahgiklgicgaaDoor
set_option maxRecDepth 100000
open Go.RowKit
set_option linter.unusedVariables false
set_option linter.unusedSimpArgs false

theorem dq_pos {b : Nat} (h : ng b = false) : dq b = mkRat (vl b : Int) (2 ^ K74) := by unfold dq rq sI vl; rw [h]; rfl
theorem cmp_twice {p q d : Nat} (hd : d ≠ 0) (h : cmpQ (mkRat (p : Int) d) (mkRat (q : Int) d + mkRat (q : Int) d) ≤ 0) : p ≤ 2 * q := by
  rw [Rat.mkRat_add_mkRat _ _ hd hd, mk_cmp hd (Nat.mul_ne_zero hd hd)] at h
  have hp : (0 : Int) < (d : Int) := by omega
  have hpp : (0 : Int) < (d : Int) * (d : Int) := Int.mul_pos hp hp
  rcases Nat.lt_or_ge (2 * q) p with hl | hl
  · exfalso
    have e1 : ((q : Int) * d + (q : Int) * d) * d = (2 * q : Int) * ((d : Int) * d) := by grind
    have e2 : (p : Int) * ((d * d : Nat) : Int) = (p : Int) * ((d : Int) * d) := by push_cast; rfl
    rw [e1, e2] at h
    have h1 : (2 * q : Int) * ((d : Int) * d) < (p : Int) * ((d : Int) * d) := Int.mul_lt_mul_of_pos_right (by omega) hpp
    rw [if_neg (by omega), if_pos h1] at h
    omega
  · exact hl
theorem sub_same {p q d : Nat} (hd : d ≠ 0) : mkRat (p : Int) d - mkRat (q : Int) d = mkRat ((p : Int) - q) d := by
  rw [sub_mk _ _ hd hd, Rat.mkRat_eq_iff (Nat.mul_ne_zero hd hd) hd]
  push_cast
  grind
theorem inf_fld {M : Nat} (h : M < INF) (s : Bool) : fld (sg s M) < 2047 ∧ ng (sg s M) = s ∧ mant (sg s M) = M := by
  rw [INF_lit] at h
  unfold fld ng mant sg
  cases s
  · simp; omega
  · simp; omega
theorem exact_diff {a b : Nat} (ha : a < 18446744073709551616) (hb : b < 18446744073709551616) (fa : fld a < 2047) (fb : fld b < 2047) (na : ng a = false) (nb : ng b = false)
    (c1 : cmpQ (dq a) (dq b + dq b) ≤ 0) (c2 : cmpQ (dq b) (dq a + dq a) ≤ 0) : fld (fsub a b) < 2047 ∧ dq (fsub a b) = dq a - dq b := by
  have hK : 2 ^ K74 ≠ 0 := by have := Nat.two_pow_pos K74; omega
  rw [dq_pos na, dq_pos nb] at c1 c2 ⊢
  have l1 := cmp_twice hK c1
  have l2 := cmp_twice hK c2
  have hE := near_exact (mant_lt fa) (mant_lt fb) l1 l2
  obtain ⟨v1, v2⟩ := ex_val hE
  have ka := (kd_cases a).2.2 fa
  have kb := (kd_cases b).2.2 fb
  have e1 : fsub a b = fsumF a (flp b) := by
    unfold fsub
    rw [show flc b = flp b by unfold flc; rw [if_neg (by omega)]]
    unfold fadd
    rw [flp_kind hb, if_neg (by omega), if_neg (by omega), if_neg (by omega)]
  have hv : vl a = fv (mant a) := rfl
  have hw : vl b = fv (mant b) := rfl
  rw [← hv, ← hw] at v1 v2
  rw [e1]
  unfold fsumF
  rw [flp_ng hb, flp_vl, na, nb, if_neg (by decide)]
  generalize vl a = p at *
  generalize vl b = q at *
  rw [sub_same hK]
  by_cases h : p = q
  · rw [if_pos h]
    refine ⟨by decide, ?_⟩
    rw [h, Int.sub_self, Rat.zero_mkRat]
    unfold dq
    rw [show mant 0 = 0 from rfl, fv_zero]
    unfold rq
    rw [sI_zero, Rat.zero_mkRat]
  · rw [if_neg h]
    by_cases h2 : q < p
    · rw [if_pos h2]
      rw [show dist p q = p - q by unfold dist; omega] at v1 v2
      obtain ⟨g1, g2, g3⟩ := inf_fld v2 false
      refine ⟨g1, ?_⟩
      unfold dq rq
      rw [g2, g3, v1, show sI false (p - q) = (p : Int) - q by unfold sI; rw [if_neg (by decide)]; omega]
    · rw [if_neg h2]
      rw [show dist p q = q - p by unfold dist; omega] at v1 v2
      obtain ⟨g1, g2, g3⟩ := inf_fld v2 true
      refine ⟨g1, ?_⟩
      unfold dq rq
      rw [show (!false) = true from rfl, g2, g3, v1, show sI true (q - p) = (p : Int) - q by unfold sI; rw [if_pos rfl]; omega]

end Go.Proofs.YtmoahgiklgicgaaDoor

namespace Go.Proofs.YtmoahgiklgicgaaDoor
set_option maxRecDepth 100000
open Go.RowKit
set_option linter.unusedVariables false
set_option linter.unusedSimpArgs false

/-- the number 1 in units of the least double -/
@[irreducible] def OO : Nat := 2 ^ K74
theorem OO_eq : OO = 2 ^ K74 := by unfold OO; rfl
theorem OO_pos : 0 < OO := by rw [OO_eq]; exact Nat.two_pow_pos _
theorem mag_upto {p d c : Nat} (hd : 0 < d) (hc : c < INF) (h : p ≤ fv c * d) : mag p d ≤ c := by
  have := mag_mono (p := p) (d := d) (p' := fv c) (d' := 1) hd (by omega) (by omega)
  rw [mag_fv hc] at this
  exact this
theorem mag_from {p d c : Nat} (hd : 0 < d) (hc : c < INF) (h : fv c * d ≤ p) : c ≤ mag p d := by
  have := mag_mono (p := fv c) (d := 1) (p' := p) (d' := d) (by omega) hd (by omega)
  rw [mag_fv hc] at this
  exact this
theorem fv_mono {a b : Nat} (hb : b < INF) (h : a ≤ b) : fv a ≤ fv b := by
  rcases Nat.lt_or_eq_of_le h with h1 | h1
  · exact Nat.le_of_lt (fv_lt (by omega) hb h1)
  · rw [h1]; exact Nat.le_refl _
/-! ### what layers 10 and 13 do, plainly -/
def fint (n : Int) : Nat := sg (decide (n < 0)) (magR n.natAbs 1 0)
def fscale (b : Nat) (k : Int) : Nat := if fld b < 2047 then sg (ng b) (magR (sig b) 1 (xpo b + k)) else cln b
/-- the integer nearest to a finite double -/
def fnv (b : Nat) : Int := sI (ng b) (rdiv (vl b) OO)
def fless (a b : Nat) : Bool :=
  if kd a = 4 ∨ kd b = 4 then false else if ng a = true ∧ ng b = true then decide (b < a) else if ng a = true then (decide (a ≠ 9223372036854775808) || decide (b ≠ 0)) else (!(ng b) && decide (a < b))
/-- where a word stands in the order of the values: its digits, with its sign -/
def rk (b : Nat) : Int := sI (ng b) (mant b)
def isn (b : Nat) : Bool := !(decide (kd b = 4))
def fsame (a b : Nat) : Bool := isn a && isn b && decide (rk a = rk b)
def fcm (a b : Nat) : Int := if kd a = 4 ∨ kd b = 4 then 2 else if rk a < rk b then -1 else if rk b < rk a then 1 else 0
theorem fless_rk {a b : Nat} (ha : a < 18446744073709551616) (hb : b < 18446744073709551616) : fless a b = (isn a && isn b && decide (rk a < rk b)) := by
  unfold fless isn
  by_cases h1 : kd a = 4
  · rw [if_pos (.inl h1)]; simp [h1]
  by_cases h2 : kd b = 4
  · rw [if_pos (.inr h2)]; simp [h2]
  rw [if_neg (by omega)]
  simp only [h1, h2, decide_false, Bool.not_false, Bool.true_and]
  unfold rk sI ng mant
  by_cases h3 : 9223372036854775808 ≤ a <;> by_cases h4 : 9223372036854775808 ≤ b
  · rw [decide_eq_true h3, decide_eq_true h4]
    simp
    omega
  · rw [decide_eq_true h3, decide_eq_false h4]
    simp
    rw [Bool.eq_iff_iff]
    simp
    omega
  · rw [decide_eq_false h3, decide_eq_true h4]
    simp
    omega
  · rw [decide_eq_false h3, decide_eq_false h4]
    simp
    omega
theorem fless_fcm {a b : Nat} (ha : a < 18446744073709551616) (hb : b < 18446744073709551616) : fless a b = decide (fcm a b = -1) := by
  rw [fless_rk ha hb]
  unfold fcm isn
  by_cases h1 : kd a = 4
  · rw [if_pos (.inl h1)]; simp [h1]
  by_cases h2 : kd b = 4
  · rw [if_pos (.inr h2)]; simp [h2]
  rw [if_neg (by omega)]
  simp only [h1, h2, decide_false, Bool.not_false, Bool.true_and]
  by_cases h : rk a < rk b
  · rw [if_pos h]; simp [h]
  · rw [if_neg h]
    by_cases h5 : rk b < rk a
    · rw [if_pos h5]; simp; omega
    · rw [if_neg h5]; simp; omega
theorem fsame_fcm (a b : Nat) : fsame a b = decide (fcm a b = 0) := by
  unfold fsame fcm isn
  by_cases h1 : kd a = 4
  · rw [if_pos (.inl h1)]; simp [h1]
  by_cases h2 : kd b = 4
  · rw [if_pos (.inr h2)]; simp [h2]
  rw [if_neg (by omega)]
  simp only [h1, h2, decide_false, Bool.not_false, Bool.true_and]
  by_cases h : rk a < rk b
  · rw [if_pos h]; simp; omega
  · rw [if_neg h]
    by_cases h5 : rk b < rk a
    · rw [if_pos h5]; simp; omega
    · rw [if_neg h5]; simp; omega
/-- the order of finite doubles is that of their exact values -/
theorem fcm_dq {a b : Nat} (fa : fld a < 2047) (fb : fld b < 2047) : cmpQ (dq a) (dq b) = if rk a < rk b then -1 else if rk b < rk a then 1 else 0 := by
  have hK : 2 ^ K74 ≠ 0 := by have := Nat.two_pow_pos K74; omega
  have hKp : (0 : Int) < ((2 ^ K74 : Nat) : Int) := Int.natCast_pos.2 (Nat.two_pow_pos K74)
  have h1 := mant_lt fa
  have h2 := mant_lt fb
  unfold dq rq
  rw [mk_cmp hK hK]
  simp only [Int.mul_lt_mul_right hKp]
  have key : ∀ (s t : Bool) (m n : Nat), m < INF → n < INF → (sI s (fv m) < sI t (fv n) ↔ sI s m < sI t n) := by
    intro s t m n hm hn
    have i1 : fv m < fv n ↔ m < n := ⟨fun h => by
      rcases Nat.lt_or_ge m n with hl | hl
      · exact hl
      · have := fv_mono hm hl; omega, fun h => fv_lt hm hn h⟩
    have i2 : fv n < fv m ↔ n < m := ⟨fun h => by
      rcases Nat.lt_or_ge n m with hl | hl
      · exact hl
      · have := fv_mono hn hl; omega, fun h => fv_lt hn hm h⟩
    have z1 := fv_eq_zero hm
    have z2 := fv_eq_zero hn
    unfold sI
    cases s <;> cases t <;> simp <;> omega
  unfold rk
  simp only [key _ _ _ _ h1 h2, key _ _ _ _ h2 h1]
/-! ### infinities stand beyond all others -/
theorem rk_inf {a : Nat} (h : kd a = 3) : rk a = sI (ng a) INF := by
  unfold rk
  congr 1
  have h1 := mant_fld a
  have h2 := Nat.div_add_mod (mant a) B52
  unfold kd at h
  split at h
  · rename_i h3
    split at h
    · rename_i h4
      rw [h1.1, h1.2, h3, h4] at h2
      have := INF_eq
      omega
    · omega
  · split at h
    · split at h <;> omega
    · omega
theorem rk_fin {a : Nat} (h : fld a < 2047) : -(INF : Int) < rk a ∧ rk a < INF := by
  have := mant_lt h
  unfold rk sI
  split <;> omega
theorem kd_fin {a : Nat} (h3 : kd a ≠ 3) (h4 : kd a ≠ 4) : fld a < 2047 := by
  have := fld_lt a
  rcases Nat.lt_or_eq_of_le this with h | h
  · exact h
  · exfalso
    unfold kd at h3 h4
    rw [if_pos h] at h3 h4
    by_cases hr : rst a = 0
    · rw [if_pos hr] at h3; exact h3 rfl
    · rw [if_neg hr] at h4; exact h4 rfl
/-- how a double that is no number, or a number, stands to 0: -2, 2 infinite, else 0 -/
def ord13 (a : Nat) : Int := if kd a = 3 then (if ng a = true then -2 else 2) else 0
theorem fcm_ord {a b : Nat} (h1 : kd a ≠ 4) (h2 : kd b ≠ 4) (h : ord13 a ≠ ord13 b ∨ ord13 a ≠ 0) : fcm a b = min (max (ord13 a - ord13 b) (-1)) 1 := by
  have hI := INF_lit
  unfold fcm
  rw [if_neg (by omega)]
  have ra : ord13 a = 0 ∧ -(INF : Int) < rk a ∧ rk a < INF ∨ ord13 a = 2 ∧ rk a = INF ∨ ord13 a = -2 ∧ rk a = -(INF : Int) := by
    unfold ord13
    by_cases h3 : kd a = 3
    · rw [if_pos h3, rk_inf h3]; unfold sI; cases ng a <;> simp
    · rw [if_neg h3]; exact .inl ⟨rfl, rk_fin (kd_fin h3 h1)⟩
  have rb : ord13 b = 0 ∧ -(INF : Int) < rk b ∧ rk b < INF ∨ ord13 b = 2 ∧ rk b = INF ∨ ord13 b = -2 ∧ rk b = -(INF : Int) := by
    unfold ord13
    by_cases h3 : kd b = 3
    · rw [if_pos h3, rk_inf h3]; unfold sI; cases ng b <;> simp
    · rw [if_neg h3]; exact .inl ⟨rfl, rk_fin (kd_fin h3 h2)⟩
  generalize ord13 a = x at *
  generalize ord13 b = y at *
  generalize rk a = r at *
  generalize rk b = q at *
  rw [hI] at ra rb
  split
  · omega
  · split <;> omega
theorem fcm_same {a b : Nat} (h1 : kd a ≠ 4) (h2 : kd b ≠ 4) (h : ord13 a = ord13 b ∧ ord13 a = 0) : fld a < 2047 ∧ fld b < 2047 ∧ fcm a b = cmpQ (dq a) (dq b) := by
  have z : ∀ c, ord13 c = 0 → kd c ≠ 3 := by
    intro c hc h3
    unfold ord13 at hc
    rw [if_pos h3] at hc
    split at hc <;> omega
  have fa := kd_fin (z a h.2) h1
  have fb := kd_fin (z b (by omega)) h2
  refine ⟨fa, fb, ?_⟩
  rw [fcm_dq fa fb]
  unfold fcm
  rw [if_neg (by omega)]
/-! ### the nearest integer -/
def nok (b : Nat) : Bool := decide (fld b < 2047) && decide ((blen (sig b) : Int) + xpo b ≤ 62)
def nrv (b : Nat) : Int := if nok b = true then fnv b else 0
theorem fnv_up {b : Nat} (f : fld b < 2047) {x : Nat} (h : xpo b = x) : fnv b = sI (ng b) (sig b * 2 ^ x) := by
  have hK := K74_eq
  unfold fnv
  congr 1
  rw [vl_eq, OO_eq, show (xpo b + 1074).toNat = x + K74 by omega, Nat.pow_add, ← Nat.mul_assoc, rdiv_exact _ (Nat.two_pow_pos _)]
theorem fnv_dn {b : Nat} (f : fld b < 2047) {k : Nat} (h : xpo b = -(k : Int)) : fnv b = sI (ng b) (rdiv (sig b) (2 ^ k)) := by
  have hK := K74_eq
  obtain ⟨h1, h2⟩ := xpo_range f
  unfold fnv
  congr 1
  rw [vl_eq, OO_eq, show (xpo b + 1074).toNat = K74 - k by omega, show K74 = k + (K74 - k) by omega, Nat.pow_add, show k + (K74 - k) - k = K74 - k by omega, rdiv_scale _ _ (Nat.two_pow_pos _)]
/-- the nearest integer as the significand of a least double -/
theorem near_word {m k : Nat} (hm : m < 9007199254740992) (hk : 1 ≤ k) : magR m 1 (-(k : Int) - 1074) < 18446744073709551616 ∧ fld (magR m 1 (-(k : Int) - 1074)) < 2047 ∧ sig (magR m 1 (-(k : Int) - 1074)) = rdiv m (2 ^ k) ∧ ng (magR m 1 (-(k : Int) - 1074)) = false := by
  have e : magR m 1 (-(k : Int) - 1074) = mag m (2 ^ k) := by
    unfold magR
    rw [up_zero (by omega), show dn (-(k : Int) - 1074) = k by unfold dn; omega, Nat.pow_zero, Nat.mul_one, Nat.one_mul]
  rw [e]
  have hB := B52_eq
  have hI := INF_lit
  have h2 : 2 ^ 1 ≤ 2 ^ k := Nat.pow_le_pow_right (by omega) hk
  have hp : 0 < 2 ^ k := Nat.two_pow_pos k
  have hfB : fv B52 = B52 := by
    unfold fv
    rw [Nat.div_self B52_pos, Nat.mod_self]
    simp
  have h3 : mag m (2 ^ k) ≤ B52 := by
    refine mag_upto hp (by omega) ?_
    rw [hfB]
    have : B52 * 2 ^ 1 ≤ B52 * 2 ^ k := Nat.mul_le_mul_left _ h2
    omega
  have h4 := fv_mag m hp (by omega : mag m (2 ^ k) < INF)
  have hq : m / 2 ^ k < 2 ^ 53 := Nat.lt_of_le_of_lt (Nat.div_le_self _ _) (by omega)
  have hu : ulp m (2 ^ k) = 0 := by
    unfold ulp
    have := blen_le hq
    omega
  rw [hu, Nat.pow_zero, Nat.mul_one, Nat.mul_one] at h4
  rw [← h4]
  generalize mag m (2 ^ k) = M at *
  have hM : mant M = M := by unfold mant; omega
  have hf : fld M ≤ 1 := by
    have := (mant_fld M).1
    rw [hM] at this
    rw [← this, hB]
    omega
  have hv := fv_mant M
  rw [hM] at hv
  have hx : xpo M = -1074 := by unfold xpo; split <;> omega
  rw [hx] at hv
  refine ⟨by omega, by omega, ?_, by unfold ng; exact decide_eq_false (by omega)⟩
  rw [hv]
  simp
theorem near_fits {b : Nat} (h : nok b = true) : (∀ x : Nat, xpo b = x → sig b * 2 ^ x < 4611686018427387904) ∧ (∀ k : Nat, 1 ≤ k → xpo b = -(k : Int) → rdiv (sig b) (2 ^ k) ≤ 4503599627370496) := by
  unfold nok at h
  rw [Bool.and_eq_true, decide_eq_true_eq, decide_eq_true_eq] at h
  have hs := sig_lt b
  refine ⟨fun x hx => ?_, fun k hk hx => ?_⟩
  · have h1 := blen_lt (sig b)
    have h2 : 2 ^ (blen (sig b) + x) ≤ 2 ^ 62 := Nat.pow_le_pow_right (by omega) (by omega)
    have h3 : sig b * 2 ^ x < 2 ^ blen (sig b) * 2 ^ x := (Nat.mul_lt_mul_right (Nat.two_pow_pos x)).2 h1
    rw [Nat.pow_add] at h2
    omega
  · have h2 : 2 ^ 1 ≤ 2 ^ k := Nat.pow_le_pow_right (by omega) hk
    have := rdiv_mono (p := sig b) (d := 2 ^ k) (p' := 4503599627370496) (d' := 1) (Nat.two_pow_pos k) (by omega) (by
      have : 4503599627370496 * 2 ^ 1 ≤ 4503599627370496 * 2 ^ k := Nat.mul_le_mul_left _ h2
      omega)
    rw [rdiv_one] at this
    exact this
theorem nok_of {b : Nat} (f : fld b < 2047) (h : (fnv b).natAbs ≤ 1077) : nok b = true := by
  unfold nok
  rw [Bool.and_eq_true, decide_eq_true_eq, decide_eq_true_eq]
  refine ⟨f, ?_⟩
  have hs := sig_lt b
  have hb : blen (sig b) ≤ 53 := blen_le (by omega)
  rcases Int.lt_or_le (xpo b) 0 with hl | hl
  · omega
  · obtain ⟨x, hx⟩ : ∃ x : Nat, xpo b = x := ⟨(xpo b).toNat, by omega⟩
    rw [fnv_up f hx, sI_natAbs] at h
    rw [hx]
    rcases Nat.eq_zero_or_pos (sig b) with h0 | h0
    · exfalso
      unfold xpo at hl
      unfold sig at h0
      split at hl
      · omega
      · rename_i h9
        rw [if_neg h9] at h0
        omega
    · have := blen_mul_pow h0 x
      have h3 : blen (sig b * 2 ^ x) ≤ 11 := blen_le (by omega)
      omega
theorem nrv_range (b : Nat) : -4611686018427387904 < nrv b ∧ nrv b < 4611686018427387904 := by
  unfold nrv
  by_cases h : nok b = true
  · rw [if_pos h]
    have hf : fld b < 2047 := by
      unfold nok at h
      rw [Bool.and_eq_true, decide_eq_true_eq, decide_eq_true_eq] at h
      exact h.1
    obtain ⟨h1, h2⟩ := near_fits h
    rcases Int.lt_or_le (xpo b) 0 with hl | hl
    · have := h2 (-(xpo b)).toNat (by omega) (by omega)
      rw [fnv_dn hf (k := (-(xpo b)).toNat) (by omega)]
      unfold sI
      split <;> omega
    · have := h1 (xpo b).toNat (by omega)
      rw [fnv_up hf (x := (xpo b).toNat) (by omega)]
      generalize sig b * 2 ^ (xpo b).toNat = z at *
      unfold sI
      split <;> omega
  · rw [if_neg h]; omega
/-! ### times powers of 2 -/
theorem scale_clamp {b : Nat} (f : fld b < 2047) (k : Int) {L : Int} (hL : 2200 ≤ L) : magR (sig b) 1 (xpo b + min (max k (-L)) L) = magR (sig b) 1 (xpo b + k) := by
  obtain ⟨h1, h2⟩ := xpo_range f
  have hs := sig_lt b
  rcases Nat.eq_zero_or_pos (sig b) with h0 | h0
  · rw [h0, magR_zero, magR_zero]
  · have hb := blen_pos h0
    have hb2 : blen (sig b) ≤ 53 := blen_le (by omega)
    rcases Int.lt_or_le k (-L) with hl | hl
    · rw [magR_small (e := xpo b + k) (by omega) (by rw [show blen 1 = 1 by decide]; omega), magR_small (by omega) (by rw [show blen 1 = 1 by decide]; omega)]
    · rcases Int.lt_or_le L k with hg | hg
      · rw [magR_big1 (e := xpo b + k) h0 (by omega), magR_big1 h0 (by omega)]
      · congr 1; omega
theorem fscale_lt {b : Nat} (hb : b < 18446744073709551616) (k : Int) : fscale b k < 18446744073709551616 := by
  unfold fscale
  split
  · exact sg_lt (mag_le _ _)
  · exact cln_lt hb
theorem fint_lt (n : Int) : fint n < 18446744073709551616 := sg_lt (mag_le _ _)

end Go.Proofs.YtmoahgiklgicgaaDoor
