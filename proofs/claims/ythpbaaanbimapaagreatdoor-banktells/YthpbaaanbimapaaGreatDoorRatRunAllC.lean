/-
  Rows of truths, and what stays below a bound but for one block. No Go function in sight. Conditions: as each lemma says.
-/
import Derived.Test.YthpbaaanbimapaaGreatDoorGcdMathAllC
import Derived.Deep.RegionHeld3
import Derived.Test.YthpbaaanbimapaaGreatDoorU64AllC
import Derived.Laws.AppendOwn
import Derived.Test.YthpbaaanbimapaaGreatDoorProg
import Derived.Test.YthpbaaanbimapaaGreatDoorNatShlAllC
import Derived.KernelRfl
import Derived.RangeFuncNested
import Derived.Lib.Hide
namespace Go.Proofs.YthpbaaanbimapaaGreatDoor
set_option maxRecDepth 100000
open Go.RowKit
set_option linter.unusedVariables false
set_option linter.unusedSimpArgs false

set_option maxHeartbeats 1000000 in
theorem rat_isZero {w : World} {A : Option Addr} {n c : Nat} {xs : List Int} (h : Sl w A n c xs) (hn : n ≤ 1000000) :
    Calls Tryz.prog 95 #[.slice A n c] w fun e w' => e = .returned (.bool (decide (val xs = 0))) ∧ w = w' := by
  have NB := nat_bits h (by omega)
  have ez : (((blen (val xs) : Nat) : Int) == 0) = decide (val xs = 0) := by
    rw [Bool.eq_iff_iff]
    simp only [beq_iff_eq, decide_eq_true_eq]
    constructor
    · intro e
      by_cases hv : val xs = 0
      · exact hv
      · have := blen_pos (Nat.pos_of_ne_zero hv); omega
    · intro e; rw [e]; rfl
  generalize ((blen (val xs) : Nat) : Int) = bl at *
  obtain ⟨b, hb⟩ : ∃ b, decide (val xs = 0) = b := ⟨_, rfl⟩
  rw [hb] at ez ⊢
  have HN := Lib.hid NB
  clear NB hb
  go_enter Tryz.func95, Tryz.ntmps95
  go_wp2_with fail
  refine HN.out.mono ?_
  rintro e w' ⟨rfl, rfl⟩
  go_wp2_with fail
  go_ret
  exact ⟨rfl, rfl⟩

set_option maxHeartbeats 1000000 in
theorem rat_signed {w : World} {A A' : Option Addr} {n n' c c' : Nat} {p q : Nat} (s : Bool) (h : Sl w A n c (words p)) (h' : Sl w A' n' c' (words q)) (hn : n ≤ 1000000) (h0 : q ≠ 0) (hg : Nat.gcd p q = 1) :
    Calls Tryz.prog 138 #[.bool s, .slice A n c, .slice A' n' c'] w (RetQ (rq s p q) w) := by
  have Z := fun w1 (hb : Below w.heap.size w w1) => rat_isZero (h.below hb) hn
  rw [val_words] at Z
  obtain ⟨h1, h2, h3⟩ := rq_cop' (s := s) h0 hg
  have hq : ∀ w' : World, Sl w' A n c (words p) → Sl w' A' n' c' (words q) → Q w' (neg_ (rq s p q)) A n c A' n' c' (rq s p q) := fun w' a b => ⟨rfl, by rw [h1]; exact a, by rw [h2]; exact b⟩
  generalize rq s p q = X at *
  have HQ := Lib.hid hq
  have HZ := Lib.hid Z
  have HH := Lib.hid h
  have HH' := Lib.hid h'
  have H3 := Lib.hid h3
  clear hq Z h h' h1 h2 h3
  cases s
  · go_enter Tryz.func138, Tryz.ntmps138
    go_wp2_with fail
    have hs := H3.out
    rw [Bool.false_and] at hs
    refine bodyPost_ret (v := .agg #[.bool false, .slice A n c, .slice A' n' c']) (by simp [results, Tryz.results138, go_sem]) rfl ?_
    refine ⟨false, A, n, c, A', n', c', rfl, ?_, below_alloc _ _⟩
    rw [← hs]
    exact HQ.out _ (HH.out.below (below_alloc _ _)) (HH'.out.below (below_alloc _ _))
  · go_enter Tryz.func138, Tryz.ntmps138
    go_wp2_with fail
    refine (HZ.out _ ?_).mono ?_
    · exact below_alloc _ _
    rintro e w' ⟨rfl, rfl⟩
    go_wp2_with fail
    have hs := H3.out
    rw [Bool.true_and] at hs
    have hs2 : (!decide (p = 0)) = neg_ X := by rw [hs]; simp
    refine bodyPost_ret (v := .agg #[.bool (!decide (p = 0)), .slice A n c, .slice A' n' c']) (by simp [results, Tryz.results138, go_sem]) rfl ?_
    refine ⟨_, A, n, c, A', n', c', rfl, ?_, below_alloc _ _⟩
    rw [hs2]
    exact HQ.out _ (HH.out.below (below_alloc _ _)) (HH'.out.below (below_alloc _ _))

set_option maxHeartbeats 1000000 in
theorem rat_make {w : World} {A A' : Option Addr} {n n' c c' : Nat} {xs ys : List Int} (s : Bool) (h : Sl w A n c xs) (h' : Sl w A' n' c' ys) (hn : n ≤ 100000) (hn' : n' ≤ 100000) (h0 : val ys ≠ 0) :
    Calls Tryz.prog 219 #[.bool s, .slice A n c, .slice A' n' c'] w (RetQE (rq s (val xs) (val ys)) 0 w) := by
  have Z := fun w1 (hb : Below w.heap.size w w1) => rat_isZero (h'.below hb) (by omega)
  rw [decide_eq_false h0] at Z
  have RD := fun w1 (hb : Below w.heap.size w w1) => gcd_reduce (N := 100000) (h.below hb) (h'.below hb) (by omega) (by omega) (by omega)
  have hred := rq_red s (val xs) (val ys) h0
  rw [hred]
  have hp : val xs < W ^ n := val_lt_pow h.us (by have := h.len; omega)
  have hps := Nat.lt_of_le_of_lt (Nat.div_le_self (val xs) (Nat.gcd (val xs) (val ys))) hp
  have hc : Nat.gcd (val xs / Nat.gcd (val xs) (val ys)) (val ys / Nat.gcd (val xs) (val ys)) = 1 := Nat.gcd_div_gcd_div_gcd_of_pos_right (Nat.pos_of_ne_zero h0)
  have hq : val ys / Nat.gcd (val xs) (val ys) ≠ 0 := by
    have hg : 0 < Nat.gcd (val xs) (val ys) := Nat.pos_of_ne_zero fun e => h0 (Nat.eq_zero_of_gcd_eq_zero_right e)
    have := Nat.div_pos (Nat.le_of_dvd (Nat.pos_of_ne_zero h0) (Nat.gcd_dvd_right (val xs) (val ys))) hg
    omega
  generalize val xs / Nat.gcd (val xs) (val ys) = p at *
  generalize val ys / Nat.gcd (val xs) (val ys) = q at *
  have HZ := Lib.hid Z
  have HR := Lib.hid RD
  have HC := Lib.hid hc
  have HP := Lib.hid hps
  clear Z RD h0 hred hc hps hp
  go_enter Tryz.func219, Tryz.ntmps219
  go_wp2_with fail
  refine (HZ.out _ (below_alloc _ _)).mono ?_
  rintro e w' ⟨rfl, rfl⟩
  go_wp2_with fail
  refine (HR.out _ (below_alloc _ _)).mono ?_
  rintro e w1 ⟨A1, n1, c1, A2, n2, c2, rfl, s1, s2, b1⟩
  have l1 : n1 ≤ n := s1.small HP.out
  go_wp2_with fail
  refine (rat_signed s s1 s2 (by omega) hq HC.out).mono ?_
  rintro e w2 ⟨s', A3, n3, c3, A4, n4, c4, rfl, q3, b2⟩
  have B2 := ((Box.new w 51 _).below' b1).below' b2
  obtain ⟨⟨k0, k1, k2⟩, f0, f1, f2⟩ := B2.three
  go_wp2_with fail
  refine bodyPost_ret (v := .tuple #[.agg #[.bool s', .slice A3 n3 c3, .slice A4 n4 c4], .int .i64 0]) (by simp [results, Tryz.results219, go_sem, k0, k1, k2]) rfl ?_
  exact ⟨_, _, _, _, _, _, _, rfl, q3.put3 ⟨_, _, _, _, _, _, _, B2⟩, below_put3 ((below_alloc w _).trans ((b1.trans (b2.mono b1.size)).mono (by simp))) (Nat.le_refl _) (Nat.le_refl _) _ _ _⟩

theorem of_rq (z : Int) : rq (decide (z < 0)) z.natAbs 1 = (z : Rat) := by
  unfold rq
  have e : sI (decide (z < 0)) z.natAbs = z := by unfold sI; by_cases h : z < 0 <;> simp [h] <;> omega
  rw [e]
  have := Rat.mkRat_self (z : Rat)
  simpa using this
set_option maxHeartbeats 1000000 in
theorem rat_of (z : Int) (hz1 : -9223372036854775808 ≤ z) (hz2 : z ≤ 9223372036854775807) (w : World) :
    Calls Tryz.prog 83 #[.int .i64 z] w (RetQ (z : Rat) w) := by
  have O := fun w1 => nat_of (z.natAbs : Int) (by unfold U; omega) w1
  have O1 := fun w1 => nat_of 1 (by unfold U; omega) w1
  rw [Int.toNat_natCast] at O
  rw [show (1 : Int).toNat = 1 from rfl] at O1
  have hp : z.natAbs < W ^ 1 := by rw [Nat.pow_one]; unfold W; omega
  have SG := fun (w1 : World) (A A' : Option Addr) (n n' c c' : Nat) (a : Sl w1 A n c (words z.natAbs)) (b : Sl w1 A' n' c' (words 1)) => rat_signed (decide (z < 0)) a b (by have := a.small hp; omega) (by omega) (Nat.gcd_one_right _)
  rw [of_rq] at SG
  have B1 := Box.new w 51 #[.bool false, .slice none 0 0, .slice none 0 0]
  have hb1 := below_alloc w (.cells #[.bool false, .slice none 0 0, .slice none 0 0] 51)
  generalize (z : Rat) = X at *
  by_cases hz : z < 0
  · have e : IntKind.u64.wrap (-(IntKind.u64.wrap z)) = (z.natAbs : Int) := by rw [wrapU, wrapU]; omega
    rw [decide_eq_true hz] at SG
    generalize ((z.natAbs : Nat) : Int) = m at *
    have HO := Lib.hid O
    have HO1 := Lib.hid O1
    have HSG := Lib.hid SG
    have HB1 := Lib.hid B1
    clear O O1 SG hp B1
    go_enter Tryz.func83, Tryz.ntmps83
    go_wp2_with fail
    refine (HO.out _).mono ?_
    rintro _ w1 ⟨A1, n1, c1, rfl, t1, b1⟩
    go_wp2_with fail
    refine (HO1.out _).mono ?_
    rintro _ w2 ⟨A2, n2, c2, rfl, t2, b2⟩
    go_wp2_with fail
    refine (HSG.out _ _ _ _ _ _ _ (t1.below b2) t2).mono ?_
    rintro _ w3 ⟨s3, A3, n3, c3, A4, n4, c4, rfl, q3, b3⟩
    have x3 := bb b1 (bb b2 b3)
    have B3 := HB1.out.below' x3
    obtain ⟨⟨r0, r1, r2⟩, f0, f1, f2⟩ := B3.three
    go_wp2_with fail
    refine bodyPost_ret (v := .agg #[.bool s3, .slice A3 n3 c3, .slice A4 n4 c4]) (by simp [results, Tryz.results83, go_sem, r0, r1, r2]) rfl ?_
    exact ⟨_, _, _, _, _, _, _, rfl, q3.put3 ⟨_, _, _, _, _, _, _, B3⟩, below_put3 (bb hb1 x3) (by omega) (Nat.le_refl _) _ _ _⟩
  · have e : IntKind.u64.wrap z = (z.natAbs : Int) := by rw [wrapU]; omega
    have hzz : ((z.natAbs : Nat) : Int) = z := by omega
    rw [hzz] at O e
    rw [decide_eq_false hz] at SG
    have HO := Lib.hid O
    have HO1 := Lib.hid O1
    have HSG := Lib.hid SG
    have HB1 := Lib.hid B1
    clear O O1 SG hp B1 hzz
    go_enter Tryz.func83, Tryz.ntmps83
    go_wp2_with fail
    refine (HO.out _).mono ?_
    rintro _ w1 ⟨A1, n1, c1, rfl, t1, b1⟩
    go_wp2_with fail
    refine (HO1.out _).mono ?_
    rintro _ w2 ⟨A2, n2, c2, rfl, t2, b2⟩
    go_wp2_with fail
    refine (HSG.out _ _ _ _ _ _ _ (t1.below b2) t2).mono ?_
    rintro _ w3 ⟨s3, A3, n3, c3, A4, n4, c4, rfl, q3, b3⟩
    have x3 := bb b1 (bb b2 b3)
    have B3 := HB1.out.below' x3
    obtain ⟨⟨r0, r1, r2⟩, f0, f1, f2⟩ := B3.three
    go_wp2_with fail
    refine bodyPost_ret (v := .agg #[.bool s3, .slice A3 n3 c3, .slice A4 n4 c4]) (by simp [results, Tryz.results83, go_sem, r0, r1, r2]) rfl ?_
    exact ⟨_, _, _, _, _, _, _, rfl, q3.put3 ⟨_, _, _, _, _, _, _, B3⟩, below_put3 (bb hb1 x3) (by omega) (Nat.le_refl _) _ _ _⟩

end Go.Proofs.YthpbaaanbimapaaGreatDoor

namespace Go.Proofs.YthpbaaanbimapaaGreatDoor
set_option maxRecDepth 100000
open Go.RowKit
set_option linter.unusedVariables false
set_option linter.unusedSimpArgs false

theorem sI_abs (s : Bool) (p : Nat) (z : Int) (h : sI s p = z) : sI s z.natAbs = z ∧ z.natAbs = p := by
  have : z.natAbs = p := by rw [← h, sI_natAbs]
  exact ⟨by rw [this]; exact h, this⟩

set_option maxHeartbeats 1000000 in
theorem rat_addSigned {w : World} {A A' : Option Addr} {n n' c c' p q : Nat} (s t : Bool) (h : Sl w A n c (words p)) (h' : Sl w A' n' c' (words q)) (hn : n ≤ 100000) (hn' : n' ≤ 100000) :
    Calls Tryz.prog 218 #[.bool s, .slice A n c, .bool t, .slice A' n' c'] w (RetSB (sI s p + sI t q) w) := by
  by_cases hst : s = t
  · subst hst
    have N := nat_add h h' (by omega) (by omega)
    rw [val_words, val_words] at N
    obtain ⟨e1, e2⟩ := sI_abs s (p + q) _ (sI_add_same s p q)
    generalize sI s p + sI s q = z at *
    rw [← e2] at N
    have HN := Lib.hid N
    have H1 := Lib.hid e1
    clear N e1 e2
    go_enter Tryz.func218, Tryz.ntmps218
    go_wp2_with fail
    refine HN.out.mono ?_
    rintro _ w1 ⟨A1, n1, c1, rfl, t1, b1⟩
    go_wp2_with fail
    go_ret2
    exact ⟨_, _, _, _, rfl, H1.out, t1, b1⟩
  · have hne : (s == t) = false := by simpa using hst
    by_cases hle : q ≤ p
    · have N := nat_sub_yes h h' (by omega) (by omega) (by rw [val_words, val_words]; exact hle)
      rw [val_words, val_words] at N
      obtain ⟨e1, e2⟩ := sI_abs s (p - q) _ (sI_add_left hst hle)
      generalize sI s p + sI t q = z at *
      rw [← e2] at N
      have HN := Lib.hid N
      have H1 := Lib.hid e1
      clear N e1 e2 hst hle
      go_enter Tryz.func218, Tryz.ntmps218
      go_wp2_with fail
      refine HN.out.mono ?_
      rintro _ w1 ⟨A1, n1, c1, rfl, t1, b1⟩
      go_wp2_with fail
      go_ret2
      exact ⟨_, _, _, _, rfl, H1.out, t1, b1⟩
    · have N1 := nat_sub_no h h' (by omega) (by omega) (by rw [val_words, val_words]; omega)
      have N := fun w1 (hb : Below w.heap.size w w1) => nat_sub_yes (h'.below hb) (h.below hb) (by omega) (by omega) (by rw [val_words, val_words]; omega)
      rw [val_words, val_words] at N
      obtain ⟨e1, e2⟩ := sI_abs t (q - p) _ (sI_add_right hst (by omega : p ≤ q))
      generalize sI s p + sI t q = z at *
      rw [← e2] at N
      have HN := Lib.hid N
      have HN1 := Lib.hid N1
      have H1 := Lib.hid e1
      clear N N1 e1 e2 hst hle
      go_enter Tryz.func218, Tryz.ntmps218
      go_wp2_with fail
      refine HN1.out.mono ?_
      rintro _ w1 ⟨A1, n1, c1, rfl, t1, b1⟩
      go_wp2_with fail
      refine (HN.out _ b1).mono ?_
      rintro _ w2 ⟨A2, n2, c2, rfl, t2, b2⟩
      go_wp2_with fail
      go_ret2
      exact ⟨_, _, _, _, rfl, H1.out, t2, bb b1 b2⟩

set_option maxRecDepth 100000 in
set_option maxHeartbeats 4000000 in
theorem rat_add {w : World} {s t : Bool} {A A' B B' : Option Addr} {n n' c c' m m' d d' N : Nat} {X Y : Rat} (h : Q w s A n c A' n' c' X) (k : Q w t B m d B' m' d' Y) (hX : Sz X N) (hY : Sz Y N) (hN : N ≤ 40000) :
    Calls Tryz.prog 176 #[.agg #[.bool s, .slice A n c, .slice A' n' c'], .agg #[.bool t, .slice B m d, .slice B' m' d']] w (RetQ (X + Y) w) := by
  obtain ⟨V, hW, Ba, Bb, Br, hb0⟩ := boxes2 51 w #[.bool s, .slice A n c, .slice A' n' c'] #[.bool t, .slice B m d, .slice B' m' d'] #[.bool false, .slice none 0 0, .slice none 0 0]
  have l1 : n ≤ N := h.2.1.small hX.1
  have l2 : n' ≤ N := h.2.2.small hX.2
  have l3 : m ≤ N := k.2.1.small hY.1
  have l4 : m' ≤ N := k.2.2.small hY.2
  have RD := fun w1 (hb : Below V.heap.size V w1) => gcd_reduce (N := N) (h.2.2.below (bb hb0 hb)) (k.2.2.below (bb hb0 hb)) (by omega) (by omega) (by omega)
  rw [val_words, val_words] at RD
  have M1 := fun w1 (hb : Below V.heap.size V w1) (C : Option Addr) (nc cc v : Nat) (a : Sl w1 C nc cc (words v)) (hl : nc ≤ N) => prod_mul (h.2.1.below (bb hb0 hb)) a (by omega)
  have M2 := fun w1 (hb : Below V.heap.size V w1) (C : Option Addr) (nc cc v : Nat) (a : Sl w1 C nc cc (words v)) (hl : nc ≤ N) => prod_mul (k.2.1.below (bb hb0 hb)) a (by omega)
  have M3 := fun w1 (hb : Below V.heap.size V w1) (C : Option Addr) (nc cc v : Nat) (a : Sl w1 C nc cc (words v)) (hl : nc ≤ N) => prod_mul (h.2.2.below (bb hb0 hb)) a (by omega)
  simp only [val_words] at M1 M2 M3
  have hden := add_den_ne X Y
  have hadd := fun (z : Int) (sz : Bool) (e : sI sz z.natAbs = z) (e2 : z = sI s (X.num.natAbs * (Y.den / Nat.gcd X.den Y.den)) + sI t (Y.num.natAbs * (X.den / Nat.gcd X.den Y.den))) => add_rq X Y (s := sz) (m := z.natAbs) (by rw [e, e2, sI_mul_nat, sI_mul_nat, h.1, k.1, sI_num, sI_num])
  have hu : X.den / Nat.gcd X.den Y.den < W ^ N := Nat.lt_of_le_of_lt (Nat.div_le_self _ _) hX.2
  have hv : Y.den / Nat.gcd X.den Y.den < W ^ N := Nat.lt_of_le_of_lt (Nat.div_le_self _ _) hY.2
  generalize X.den / Nat.gcd X.den Y.den = u at *
  generalize Y.den / Nat.gcd X.den Y.den = v at *
  have z1 := mul_lt_powW hX.1 hv
  have z2 := mul_lt_powW hY.1 hu
  have z3 := mul_lt_powW hX.2 hv
  have z4 : (sI s (X.num.natAbs * v) + sI t (Y.num.natAbs * u)).natAbs < W ^ (N + N + 1) := by
    have := two_pow_W (N + N)
    have := Int.natAbs_add_le (sI s (X.num.natAbs * v)) (sI t (Y.num.natAbs * u))
    rw [sI_natAbs, sI_natAbs] at this
    omega
  have hS : ∀ w', Below V.heap.size V w' → (w'.cell? ⟨w.heap.size, 0, none⟩ = some (.bool s) ∧ w'.cell? ⟨w.heap.size, 1, none⟩ = some (.slice A n c) ∧ w'.cell? ⟨w.heap.size, 2, none⟩ = some (.slice A' n' c')) ∧ (w'.cell? ⟨w.heap.size + 1, 0, none⟩ = some (.bool t) ∧ w'.cell? ⟨w.heap.size + 1, 1, none⟩ = some (.slice B m d) ∧ w'.cell? ⟨w.heap.size + 1, 2, none⟩ = some (.slice B' m' d')) := fun w' hb => ⟨(Ba.below' hb).three.1, (Bb.below' hb).three.1⟩
  generalize X + Y = Z at *
  generalize X.num.natAbs = p at *
  generalize Y.num.natAbs = q at *
  generalize X.den = p' at *
  have HRD := Lib.hid RD
  have HM1 := Lib.hid M1
  have HM2 := Lib.hid M2
  have HM3 := Lib.hid M3
  have HS := Lib.hid hS
  have HBr := Lib.hid Br
  have HW := Lib.hid hW
  have HA := Lib.hid hadd
  have Hu := Lib.hid hu
  have Hv := Lib.hid hv
  have Hz1 := Lib.hid z1
  have Hz2 := Lib.hid z2
  have Hz3 := Lib.hid z3
  have Hz4 := Lib.hid z4
  have HD := Lib.hid hden
  clear RD M1 M2 M3 hS Ba Bb Br hW hadd hu hv z1 z2 z3 z4 h k hX hY hden
  go_enter Tryz.func176, Tryz.ntmps176
  go_wp2_with fail
  refine (HRD.out _ (by rw [HW.out]; exact Below.refl _ _)).mono ?_
  rintro _ w1 ⟨A1, n1, c1, A2, n2, c2, rfl, t1, t2, b1⟩
  rw [HW.out] at b1
  have l5 : n1 ≤ N := t1.small Hu.out
  have l6 : n2 ≤ N := t2.small Hv.out
  obtain ⟨⟨k0, k1, k2⟩, j0, j1, j2⟩ := HS.out _ b1
  clear HRD HW
  go_wp2_with fail
  go_region_held3 (fun w' => (w'.cell? ⟨w.heap.size, 0, none⟩ = some (.bool s) ∧ w'.cell? ⟨w.heap.size, 1, none⟩ = some (.slice A n c) ∧ w'.cell? ⟨w.heap.size, 2, none⟩ = some (.slice A' n' c')) ∧ (w'.cell? ⟨w.heap.size + 1, 0, none⟩ = some (.bool t) ∧ w'.cell? ⟨w.heap.size + 1, 1, none⟩ = some (.slice B m d) ∧ w'.cell? ⟨w.heap.size + 1, 2, none⟩ = some (.slice B' m' d'))) (first | exact HS.out _ b1.drew | exact HS.out _ x4 | exact HS.out _ x3 | exact HS.out _ x2 | fail)
    (first
      | (go_at_call 156; (with_reducible refine (HM1.out _ ?hb1 _ _ _ v ?hc1 l6).mono ?_); (case hb1 => exact b1.drew); (case hc1 => exact t2); rintro _ w2 ⟨A3, n3, c3, rfl, t3, b2⟩; have x2 : Below V.heap.size V w2 := bb b1 (Below.undrew b2))
      | (go_at_call 156; (with_reducible refine (HM2.out _ ?hb2 _ _ _ u ?hc2 l5).mono ?_); (case hb2 => exact x2); (case hc2 => exact t1.below (Below.undrew b2)); rintro _ w3 ⟨A4, n4, c4, rfl, t4, b3⟩; have x3 : Below V.heap.size V w3 := bb x2 b3)
      | (go_at_call 218; (with_reducible refine (rat_addSigned s t (t3.below b3) t4 (by have := t3.small Hz1.out; omega) (by have := t4.small Hz2.out; omega)).mono ?_); rintro _ w4 ⟨s5, A5, n5, c5, rfl, e5, t5, b4⟩; have x4 : Below V.heap.size V w4 := bb x3 b4; have t24 := ((t2.below (Below.undrew b2)).below b3).below b4; have HE5 := Lib.hid e5; clear e5))
  all_goals
    obtain ⟨⟨k0, k1, k2⟩, j0, j1, j2⟩ := HS.out _ x4
    go_wp2_with fail
    refine (HM3.out _ x4 _ _ _ v t24 l6).mono ?_
    rintro _ w5 ⟨A6, n6, c6, rfl, t6, b5⟩
    have MK := rat_make s5 (t5.below b5) t6 (by have := t5.small Hz4.out; omega) (by have := t6.small Hz3.out; omega) (by rw [val_words]; exact HD.out)
    rw [val_words, val_words, HA.out _ s5 HE5.out rfl] at MK
    have HMK := Lib.hid MK
    clear MK
    go_wp2_with fail
    refine HMK.out.mono ?_
    rintro _ w6 ⟨s7, A7, n7, c7, A8, n8, c8, rfl, q7, b6⟩
    have x6 := bb x4 (bb b5 b6)
    have B6 := HBr.out.below' x6
    have hz6 : w.heap.size + 1 + 1 < w6.heap.size := B6.lt
    have hne6 : ¬ (w.heap.size + 1 + 1 = w6.heap.size) := by omega
    obtain ⟨⟨r0, r1, r2⟩, f0, f1, f2⟩ := B6.three
    go_wp2_with fail
    refine bodyPost_ret (v := .agg #[.bool s7, .slice A7 n7 c7, .slice A8 n8 c8]) (by simp [results, Tryz.results176, go_sem, r0, r1, r2, hz6, hne6]) rfl ?_
    have y6 := below_put3 (bb hb0 x6) (show w.heap.size ≤ w.heap.size + 1 + 1 by omega) (Nat.le_refl _) (.bool s7) (.slice A7 n7 c7) (.slice A8 n8 c8)
    exact ⟨_, _, _, _, _, _, _, rfl, (q7.put3 ⟨_, _, _, _, _, _, _, B6⟩).below (below_alloc _ _), y6.alloc y6.size _⟩

end Go.Proofs.YthpbaaanbimapaaGreatDoor

namespace Go.Proofs.YthpbaaanbimapaaGreatDoor
set_option maxRecDepth 100000
open Go.RowKit
set_option linter.unusedVariables false
set_option linter.unusedSimpArgs false

set_option maxRecDepth 100000 in
set_option maxHeartbeats 4000000 in
theorem ref_makeT {w : World} {A A' : Option Addr} {n n' c c' N : Nat} {xs ys : List Int} (s : Bool) (h : Sl w A n c xs) (h' : Sl w A' n' c' ys) (hn : n ≤ N) (hn' : n' ≤ N) (hN : N ≤ 90000) (h0 : val ys ≠ 0) (htz : tz (val ys) ≤ 65536) :
    Calls Tryz.prog 64 #[.bool s, .slice A n c, .slice A' n' c'] w (RetQ (rq s (val xs) (val ys)) w) := by
  have za : val xs = 0 ↔ sz xs = 0 := valB_zero_iff W_pos (Dg_U h.us)
  have Z := fun w1 (hb : Below w.heap.size w w1) => ref_size (h.below hb) (by omega)
  obtain ⟨r1, r2, r3⟩ := rq_num s (val xs) (val ys) h0
  by_cases hz : val xs = 0
  · rw [za.1 hz] at Z
    have e1 : rq s (val xs) (val ys) = 0 := by
      unfold rq; rw [hz, sI_zero]; exact Rat.zero_mkRat _
    rw [e1]
    have HZ := Lib.hid Z
    clear htz Z r1 r2 r3 hz za e1
    have hs := sl_lit (w.alloc (.cells #[.bool false, .slice none 0 0, .slice (some ⟨w.heap.size + 1, 0, none⟩) 1 1] 51)) 1 U_1
    rw [show (w.alloc (.cells #[.bool false, .slice none 0 0, .slice (some ⟨w.heap.size + 1, 0, none⟩) 1 1] 51)).heap.size = w.heap.size + 1 from by simp] at hs
    have HSL := Lib.hid hs
    clear hs
    go_enter Tryz.func64, Tryz.ntmps64
    go_wp2_with fail
    refine (HZ.out _ (below_alloc _ _)).mono ?_
    rintro _ _ ⟨rfl, rfl⟩
    go_wp2_with fail
    refine bodyPost_ret (v := .agg #[.bool false, .slice none 0 0, .slice (some ⟨w.heap.size + 1, 0, none⟩) 1 1]) (by simp [results, Tryz.results64, go_sem]) rfl ?_
    refine ⟨_, _, _, _, _, _, _, rfl, ⟨rfl, Sl.nil _ _ _, ?_⟩, (below_alloc _ _).alloc (by simp) _⟩
    rw [show (0 : Rat).den = 1 from rfl, words_one]
    exact HSL.out
  · have hne : ((sz xs : Int) == 0) = false := by
      have : sz xs ≠ 0 := fun e => hz (za.2 e)
      simp; omega
    have G := fun w1 (hb : Below w.heap.size w w1) => ref_gcdT (N := N) (h.below hb) (h'.below hb) hn hn' hN (by omega)
    have P1 := fun w1 (hb : Below w.heap.size w w1) (C : Option Addr) (a b g : Nat) (x : Sl w1 C a b (words g)) (hl : a ≤ N) => ref_part (N := N) (h.below hb) x hn hl hN
    have P2 := fun w1 (hb : Below w.heap.size w w1) (C : Option Addr) (a b g : Nat) (x : Sl w1 C a b (words g)) (hl : a ≤ N) => ref_part (N := N) (h'.below hb) x hn' hl hN
    simp only [val_words] at P1 P2
    have va : val xs < W ^ N := val_lt_pow h.us (by have := h.len; omega)
    have vb : val ys < W ^ N := val_lt_pow h'.us (by have := h'.len; omega)
    have vg := gcd_lt va vb
    have hpz : val xs / Nat.gcd (val xs) (val ys) ≠ 0 := by
      have hg : 0 < Nat.gcd (val xs) (val ys) := Nat.pos_of_ne_zero fun e => h0 (Nat.eq_zero_of_gcd_eq_zero_right e)
      have := Nat.div_pos (Nat.le_of_dvd (Nat.pos_of_ne_zero hz) (Nat.gcd_dvd_left (val xs) (val ys))) hg
      omega
    rw [decide_eq_true hpz, Bool.and_true] at r3
    have hq : ∀ (w1 : World) (C C' : Option Addr) (a b a' b' : Nat), Sl w1 C a b (words (val xs / Nat.gcd (val xs) (val ys))) → Sl w1 C' a' b' (words (val ys / Nat.gcd (val xs) (val ys))) → Q w1 s C a b C' a' b' (rq s (val xs) (val ys)) := fun w1 C C' a b a' b' x y => ⟨r3.symm, by rw [r1]; exact x, by rw [r2]; exact y⟩
    generalize rq s (val xs) (val ys) = X at *
    generalize Nat.gcd (val xs) (val ys) = g at *
    generalize val xs = p at *
    generalize val ys = q at *
    generalize ((sz xs : Nat) : Int) = zz at *
    have HZ := Lib.hid Z
    have HG := Lib.hid G
    have HP1 := Lib.hid P1
    have HP2 := Lib.hid P2
    have HQ := Lib.hid hq
    have HVG := Lib.hid vg
    have Br := Box.new w 51 #[.bool false, .slice none 0 0, .slice none 0 0]
    have HBr := Lib.hid Br
    clear htz Z G P1 P2 hq vg va vb hpz r1 r2 r3 za hz Br h h' h0
    go_enter Tryz.func64, Tryz.ntmps64
    go_wp2_with fail
    refine (HZ.out _ (below_alloc _ _)).mono ?_
    rintro _ _ ⟨rfl, rfl⟩
    go_wp2_with fail
    refine (HG.out _ (below_alloc _ _)).mono ?_
    rintro _ w1 ⟨A1, n1, c1, rfl, t1, b1⟩
    have l1 : n1 ≤ N := t1.small HVG.out
    have x1 := bb (below_alloc w _) b1
    go_wp2_with fail
    refine (HP1.out _ x1 _ _ _ _ t1 l1).mono ?_
    rintro _ w2 ⟨A2, n2, c2, rfl, t2, b2⟩
    have x2 := bb x1 b2
    go_wp2_with fail
    refine (HP2.out _ x2 _ _ _ _ (t1.below b2) l1).mono ?_
    rintro _ w3 ⟨A3, n3, c3, rfl, t3, b3⟩
    have x3 := bb x2 b3
    have B9 := HBr.out.below' (bb b1 (bb b2 b3))
    have q7 := HQ.out _ _ _ _ _ _ _ (t2.below b3) t3
    obtain ⟨⟨r0, r1, r2⟩, f0, f1, f2⟩ := B9.three
    go_wp2_with fail
    refine bodyPost_ret (v := .agg #[.bool s, .slice A2 n2 c2, .slice A3 n3 c3]) (by simp [results, Tryz.results64, go_sem, r0, r1, r2]) rfl ?_
    exact ⟨_, _, _, _, _, _, _, rfl, q7.put3 ⟨_, _, _, _, _, _, _, B9⟩, below_put3 x3 (by omega) (Nat.le_refl _) _ _ _⟩

theorem ref_make {w : World} {A A' : Option Addr} {n n' c c' N : Nat} {xs ys : List Int} (s : Bool) (h : Sl w A n c xs) (h' : Sl w A' n' c' ys) (hn : n ≤ N) (hn' : n' ≤ N) (hN : N ≤ 1000) (h0 : val ys ≠ 0) :
    Calls Tryz.prog 64 #[.bool s, .slice A n c, .slice A' n' c'] w (RetQ (rq s (val xs) (val ys)) w) :=
  ref_makeT s h h' hn hn' (by omega) h0 (tz_small (val_lt_pow h'.us (by have := h'.len; omega)) hN)

end Go.Proofs.YthpbaaanbimapaaGreatDoor

namespace Go.Proofs.YthpbaaanbimapaaGreatDoor
set_option maxRecDepth 100000
open Go.RowKit
set_option linter.unusedVariables false
set_option linter.unusedSimpArgs false

set_option maxHeartbeats 1000000 in
theorem plain_long {w : World} {s : Bool} {A A' : Option Addr} {n n' c c' : Nat} (k : Int) :
    Calls Tryz.prog 48 #[.agg #[.bool s, .slice A n c, .slice A' n' c'], .int .i64 k] w (RetBl (decide (k < n ∨ k < n')) w) := by
  by_cases h1 : k < n
  · rw [decide_eq_true (.inl h1)]
    go_enter Tryz.func48, Tryz.ntmps48
    go_wp2_with fail
    go_ret
    exact ⟨rfl, below_alloc _ _⟩
  · have e1 : decide (k < (n : Int)) = false := decide_eq_false h1
    obtain ⟨b, hb⟩ : ∃ b, decide (k < n ∨ k < n') = b := ⟨_, rfl⟩
    have e2 : decide (k < (n' : Int)) = b := by rw [← hb]; simp [h1]
    rw [hb]
    clear hb
    go_enter Tryz.func48, Tryz.ntmps48
    go_wp2_with fail
    go_ret
    exact ⟨rfl, below_alloc _ _⟩

/-- is a number valid? -/
def rightB (s : Bool) (xs ys : List Int) : Bool := decide (sz xs = xs.length ∧ sz ys = ys.length ∧ val ys ≠ 0 ∧ ¬ (s = true ∧ val xs = 0) ∧ Nat.gcd (val xs) (val ys) = 1)
theorem right_no1 {s : Bool} {xs ys : List Int} (h : ¬ sz xs = xs.length) : rightB s xs ys = false := decide_eq_false fun e => h e.1
theorem right_no2 {s : Bool} {xs ys : List Int} (h : ¬ sz ys = ys.length) : rightB s xs ys = false := decide_eq_false fun e => h e.2.1
theorem right_no3 {s : Bool} {xs ys : List Int} (h : val ys = 0) : rightB s xs ys = false := decide_eq_false fun e => e.2.2.1 h
theorem right_no4 {s : Bool} {xs ys : List Int} (h : s = true ∧ val xs = 0) : rightB s xs ys = false := decide_eq_false fun e => e.2.2.2.1 h
theorem right_yes {s : Bool} {xs ys : List Int} (h1 : sz xs = xs.length) (h2 : sz ys = ys.length) (h3 : val ys ≠ 0) (h4 : ¬ (s = true ∧ val xs = 0)) : rightB s xs ys = decide (Nat.gcd (val xs) (val ys) = 1) := by
  unfold rightB
  rw [Bool.eq_iff_iff]
  simp only [decide_eq_true_eq]
  exact ⟨fun e => e.2.2.2.2, fun e => ⟨h1, h2, h3, h4, e⟩⟩
set_option maxRecDepth 100000 in
set_option maxHeartbeats 4000000 in
theorem rat_right {w : World} {s : Bool} {A A' : Option Addr} {n n' c c' N : Nat} {xs ys : List Int} (h : Sl w A n c xs) (h' : Sl w A' n' c' ys) (hn : n ≤ N) (hn' : n' ≤ N) (hN : N ≤ 1000) :
    Calls Tryz.prog 57 #[.agg #[.bool s, .slice A n c, .slice A' n' c']] w (RetBl (rightB s xs ys) w) := by
  have N1 := fun w1 (hb : Below w.heap.size w w1) => nat_right (h.below hb) (by omega)
  have N2 := fun w1 (hb : Below w.heap.size w w1) => nat_right (h'.below hb) (by omega)
  have Z1 := fun w1 (hb : Below w.heap.size w w1) => rat_isZero (h.below hb) (by omega)
  have Z2 := fun w1 (hb : Below w.heap.size w w1) => rat_isZero (h'.below hb) (by omega)
  have CO := fun w1 (hb : Below w.heap.size w w1) => gcd_coprime (N := N) (h.below hb) (h'.below hb) hn hn' (by omega)
  have z1 : val xs = 0 ↔ sz xs = 0 := valB_zero_iff W_pos (Dg_U h.us)
  have z2 : val ys = 0 ↔ sz ys = 0 := valB_zero_iff W_pos (Dg_U h'.us)
  have e1 := h.len
  have e2 := h'.len
  by_cases h1 : sz xs = n
  · rw [decide_eq_true h1] at N1
    have HN1 := Lib.hid N1
    by_cases h2 : sz ys = n'
    · rw [decide_eq_true h2] at N2
      have HN2 := Lib.hid N2
      clear N1 N2
      by_cases h3 : val ys = 0
      · rw [right_no3 h3]
        rw [decide_eq_true h3] at Z2
        have HZ2 := Lib.hid Z2
        clear Z1 Z2 CO z1 z2 h1 h2 h3 e1 e2
        go_enter Tryz.func57, Tryz.ntmps57
        go_wp2_with fail
        refine (HN1.out _ (below_alloc _ _)).mono ?_
        rintro _ _ ⟨rfl, rfl⟩
        go_wp2_with fail
        refine (HN2.out _ (below_alloc _ _)).mono ?_
        rintro _ _ ⟨rfl, rfl⟩
        go_wp2_with fail
        refine (HZ2.out _ (below_alloc _ _)).mono ?_
        rintro _ _ ⟨rfl, rfl⟩
        go_wp2_with fail
        go_ret
        exact ⟨rfl, below_alloc _ _⟩
      · by_cases h4 : s = true ∧ val xs = 0
        · rw [right_no4 h4]
          rw [decide_eq_false h3] at Z2
          rw [decide_eq_true h4.2] at Z1
          have HZ2 := Lib.hid Z2
          have HZ1 := Lib.hid Z1
          obtain ⟨rfl, _⟩ := h4
          clear Z1 Z2 CO z1 z2 h1 h2 h3 e1 e2
          go_enter Tryz.func57, Tryz.ntmps57
          go_wp2_with fail
          refine (HN1.out _ (below_alloc _ _)).mono ?_
          rintro _ _ ⟨rfl, rfl⟩
          go_wp2_with fail
          refine (HN2.out _ (below_alloc _ _)).mono ?_
          rintro _ _ ⟨rfl, rfl⟩
          go_wp2_with fail
          refine (HZ2.out _ (below_alloc _ _)).mono ?_
          rintro _ _ ⟨rfl, rfl⟩
          go_wp2_with fail
          refine (HZ1.out _ (below_alloc _ _)).mono ?_
          rintro _ _ ⟨rfl, rfl⟩
          go_wp2_with fail
          go_ret
          exact ⟨rfl, below_alloc _ _⟩
        · rw [right_yes (by omega) (by omega) h3 h4]
          obtain ⟨bb', hbb⟩ : ∃ b, decide (Nat.gcd (val xs) (val ys) = 1) = b := ⟨_, rfl⟩
          rw [hbb]
          rw [decide_eq_false h3] at Z2
          rw [hbb] at CO
          have HZ2 := Lib.hid Z2
          have HZ1 := Lib.hid Z1
          have HCO := Lib.hid CO
          cases s
          · clear Z1 Z2 CO z1 z2 h1 h2 h3 h4 e1 e2 hbb
            go_enter Tryz.func57, Tryz.ntmps57
            go_wp2_with fail
            refine (HN1.out _ (below_alloc _ _)).mono ?_
            rintro _ _ ⟨rfl, rfl⟩
            go_wp2_with fail
            refine (HN2.out _ (below_alloc _ _)).mono ?_
            rintro _ _ ⟨rfl, rfl⟩
            go_wp2_with fail
            refine (HZ2.out _ (below_alloc _ _)).mono ?_
            rintro _ _ ⟨rfl, rfl⟩
            go_wp2_with fail
            refine (HCO.out _ (below_alloc _ _)).mono ?_
            rintro _ w1 ⟨rfl, b1⟩
            go_wp2_with fail
            go_ret
            exact ⟨rfl, bb (below_alloc _ _) b1⟩
          · rw [decide_eq_false (fun e => h4 ⟨rfl, e⟩)] at HZ1
            clear Z1 Z2 CO z1 z2 h1 h2 h3 h4 e1 e2 hbb
            go_enter Tryz.func57, Tryz.ntmps57
            go_wp2_with fail
            refine (HN1.out _ (below_alloc _ _)).mono ?_
            rintro _ _ ⟨rfl, rfl⟩
            go_wp2_with fail
            refine (HN2.out _ (below_alloc _ _)).mono ?_
            rintro _ _ ⟨rfl, rfl⟩
            go_wp2_with fail
            refine (HZ2.out _ (below_alloc _ _)).mono ?_
            rintro _ _ ⟨rfl, rfl⟩
            go_wp2_with fail
            refine (HZ1.out _ (below_alloc _ _)).mono ?_
            rintro _ _ ⟨rfl, rfl⟩
            go_wp2_with fail
            refine (HCO.out _ (below_alloc _ _)).mono ?_
            rintro _ w1 ⟨rfl, b1⟩
            go_wp2_with fail
            go_ret
            exact ⟨rfl, bb (below_alloc _ _) b1⟩
    · rw [decide_eq_false h2] at N2
      rw [right_no2 (by omega)]
      have HN2 := Lib.hid N2
      clear N1 N2 Z1 Z2 CO z1 z2 h1 h2 e1 e2
      go_enter Tryz.func57, Tryz.ntmps57
      go_wp2_with fail
      refine (HN1.out _ (below_alloc _ _)).mono ?_
      rintro _ _ ⟨rfl, rfl⟩
      go_wp2_with fail
      refine (HN2.out _ (below_alloc _ _)).mono ?_
      rintro _ _ ⟨rfl, rfl⟩
      go_wp2_with fail
      go_ret
      exact ⟨rfl, below_alloc _ _⟩
  · rw [decide_eq_false h1] at N1
    rw [right_no1 (by omega)]
    have HN1 := Lib.hid N1
    clear N1 N2 Z1 Z2 CO z1 z2 h1 e1 e2
    go_enter Tryz.func57, Tryz.ntmps57
    go_wp2_with fail
    refine (HN1.out _ (below_alloc _ _)).mono ?_
    rintro _ _ ⟨rfl, rfl⟩
    go_wp2_with fail
    go_ret
    exact ⟨rfl, below_alloc _ _⟩

set_option maxRecDepth 100000 in
set_option maxHeartbeats 4000000 in
theorem ref_ratRight {w : World} {s : Bool} {A A' : Option Addr} {n n' c c' N : Nat} {xs ys : List Int} (h : Sl w A n c xs) (h' : Sl w A' n' c' ys) (hn : n ≤ N) (hn' : n' ≤ N) (hN : N ≤ 1000) :
    Calls Tryz.prog 60 #[.agg #[.bool s, .slice A n c, .slice A' n' c']] w (RetBl (rightB s xs ys) w) := by
  have N1 := fun w1 (hb : Below w.heap.size w w1) => ref_right (h.below hb) (by omega)
  have N2 := fun w1 (hb : Below w.heap.size w w1) => ref_right (h'.below hb) (by omega)
  have GG := fun w1 (hb : Below w.heap.size w w1) => ref_gcd (N := N) (h.below hb) (h'.below hb) hn hn' hN
  have va : val xs < W ^ N := val_lt_pow h.us (by have := h.len; omega)
  have vb : val ys < W ^ N := val_lt_pow h'.us (by have := h'.len; omega)
  have vg := gcd_lt va vb
  have z1 : val xs = 0 ↔ sz xs = 0 := valB_zero_iff W_pos (Dg_U h.us)
  have z2 : val ys = 0 ↔ sz ys = 0 := valB_zero_iff W_pos (Dg_U h'.us)
  have e1 := h.len
  have e2 := h'.len
  by_cases h1 : sz xs = n
  · rw [decide_eq_true h1] at N1
    have HN1 := Lib.hid N1
    by_cases h2 : sz ys = n'
    · rw [decide_eq_true h2] at N2
      have HN2 := Lib.hid N2
      clear N1 N2
      by_cases h3 : val ys = 0
      · rw [right_no3 h3]
        have hz : n' = 0 := by rw [← h2]; exact z2.1 h3
        subst hz
        clear GG va vb vg z1 z2 h1 h2 h3 e1 e2
        go_enter Tryz.func60, Tryz.ntmps60
        go_wp2_with fail
        refine (HN1.out _ (below_alloc _ _)).mono ?_
        rintro _ _ ⟨rfl, rfl⟩
        go_wp2_with fail
        refine (HN2.out _ (below_alloc _ _)).mono ?_
        rintro _ _ ⟨rfl, rfl⟩
        go_wp2_with fail
        go_ret
        exact ⟨rfl, below_alloc _ _⟩
      · by_cases h4 : s = true ∧ val xs = 0
        · rw [right_no4 h4]
          have hz : n = 0 := by rw [← h1]; exact z1.1 h4.2
          have hz' : ¬ n' = 0 := by rw [← h2]; exact fun e => h3 (z2.2 e)
          have hz2 : ((n' : Int) == 0) = false := by simp; omega
          have hz3 : decide (n' = 0) = false := decide_eq_false hz'
          subst hz
          obtain ⟨rfl, _⟩ := h4
          clear GG va vb vg z1 z2 h1 h2 h3 e1 e2
          go_enter Tryz.func60, Tryz.ntmps60
          go_wp2_with fail
          refine (HN1.out _ (below_alloc _ _)).mono ?_
          rintro _ _ ⟨rfl, rfl⟩
          go_wp2_with fail
          refine (HN2.out _ (below_alloc _ _)).mono ?_
          rintro _ _ ⟨rfl, rfl⟩
          go_wp2_with fail
          go_ret
          exact ⟨rfl, below_alloc _ _⟩
        · rw [right_yes (by omega) (by omega) h3 h4]
          obtain ⟨bb', hbb⟩ : ∃ b, decide (Nat.gcd (val xs) (val ys) = 1) = b := ⟨_, rfl⟩
          rw [hbb]
          have hz' : ¬ n' = 0 := by rw [← h2]; exact fun e => h3 (z2.2 e)
          have hz2 : ((n' : Int) == 0) = false := by simp; omega
          have hz3 : decide (n' = 0) = false := decide_eq_false hz'
          obtain ⟨g, hg⟩ : ∃ g, Nat.gcd (val xs) (val ys) = g := ⟨_, rfl⟩
          rw [hg] at vg GG
          simp only [hg] at hbb
          have ez := cmpN_zero g 1
          rw [hbb] at ez
          have CM := fun (w1 : World) (C C' : Option Addr) (a b a' b' : Nat) (x : Sl w1 C a b (words g)) (y : Sl w1 C' a' b' [1]) => ref_cmp x y (by have := x.small vg; omega) (by have := y.len; simp at this; omega)
          have v1 : val [(1 : Int)] = 1 := rfl
          simp only [val_words, v1] at CM
          generalize cmpN g 1 = cm at CM ez
          have HGG := Lib.hid GG
          have HCM := Lib.hid CM
          cases s
          · clear GG CM va vb vg z1 z2 h1 h2 h3 h4 e1 e2 hbb hg
            go_enter Tryz.func60, Tryz.ntmps60
            go_wp2_with fail
            refine (HN1.out _ (below_alloc _ _)).mono ?_
            rintro _ _ ⟨rfl, rfl⟩
            go_wp2_with fail
            refine (HN2.out _ (below_alloc _ _)).mono ?_
            rintro _ _ ⟨rfl, rfl⟩
            go_wp2_with fail
            refine (HGG.out _ (below_alloc _ _)).mono ?_
            rintro _ w1 ⟨A1, n1, c1, rfl, t1, b1⟩
            go_wp2_with fail
            refine (HCM.out _ _ _ _ _ _ _ (t1.below (below_alloc _ _)) (sl_lit w1 1 U_1)).mono ?_
            rintro _ _ ⟨rfl, rfl⟩
            go_wp2_with fail
            go_ret
            exact ⟨rfl, (bb (below_alloc _ _) b1).alloc (bb (below_alloc _ _) b1).size _⟩
          · have hz : ¬ n = 0 := by rw [← h1]; exact fun e => h4 ⟨rfl, z1.2 e⟩
            have hz4 : ((n : Int) == 0) = false := by simp; omega
            have hz5 : decide (n = 0) = false := decide_eq_false hz
            clear GG CM va vb vg z1 z2 h1 h2 h3 h4 e1 e2 hbb hg
            go_enter Tryz.func60, Tryz.ntmps60
            go_wp2_with fail
            refine (HN1.out _ (below_alloc _ _)).mono ?_
            rintro _ _ ⟨rfl, rfl⟩
            go_wp2_with fail
            refine (HN2.out _ (below_alloc _ _)).mono ?_
            rintro _ _ ⟨rfl, rfl⟩
            go_wp2_with fail
            refine (HGG.out _ (below_alloc _ _)).mono ?_
            rintro _ w1 ⟨A1, n1, c1, rfl, t1, b1⟩
            go_wp2_with fail
            refine (HCM.out _ _ _ _ _ _ _ (t1.below (below_alloc _ _)) (sl_lit w1 1 U_1)).mono ?_
            rintro _ _ ⟨rfl, rfl⟩
            go_wp2_with fail
            go_ret
            exact ⟨rfl, (bb (below_alloc _ _) b1).alloc (bb (below_alloc _ _) b1).size _⟩
    · rw [decide_eq_false h2] at N2
      rw [right_no2 (by omega)]
      have HN2 := Lib.hid N2
      clear N1 N2 GG va vb vg z1 z2 h1 h2 e1 e2
      go_enter Tryz.func60, Tryz.ntmps60
      go_wp2_with fail
      refine (HN1.out _ (below_alloc _ _)).mono ?_
      rintro _ _ ⟨rfl, rfl⟩
      go_wp2_with fail
      refine (HN2.out _ (below_alloc _ _)).mono ?_
      rintro _ _ ⟨rfl, rfl⟩
      go_wp2_with fail
      go_ret
      exact ⟨rfl, below_alloc _ _⟩
  · rw [decide_eq_false h1] at N1
    rw [right_no1 (by omega)]
    have HN1 := Lib.hid N1
    clear N1 N2 GG va vb vg z1 z2 h1 e1 e2
    go_enter Tryz.func60, Tryz.ntmps60
    go_wp2_with fail
    refine (HN1.out _ (below_alloc _ _)).mono ?_
    rintro _ _ ⟨rfl, rfl⟩
    go_wp2_with fail
    go_ret
    exact ⟨rfl, below_alloc _ _⟩

/-- the world behind a result's box and two words -/
theorem lits2 (w : World) (us : Array Value) (x y : Int) (hx : U x) (hy : U y) : ∃ V, ((w.alloc (.cells us 51)).alloc (.cells #[.int .u64 x] 34)).alloc (.cells #[.int .u64 y] 34) = V ∧ Box 51 V w.heap.size us ∧ Sl V (some ⟨w.heap.size + 1, 0, none⟩) 1 1 [x] ∧ Sl V (some ⟨w.heap.size + 1 + 1, 0, none⟩) 1 1 [y] ∧ Below w.heap.size w V := by
  refine ⟨_, rfl, ((Box.new w _ us).alloc _).alloc _, ?_, ?_, ((below_alloc _ _).alloc (by simp) _).alloc (by simp; omega) _⟩
  · have := (sl_lit (w.alloc (.cells us 51)) x hx).below (below_alloc _ (.cells #[.int .u64 y] 34))
    rw [show (w.alloc (.cells us 51)).heap.size = w.heap.size + 1 from by simp] at this
    exact this
  · have := sl_lit ((w.alloc (.cells us 51)).alloc (.cells #[.int .u64 x] 34)) y hy
    rw [show ((w.alloc (.cells us 51)).alloc (.cells #[.int .u64 x] 34)).heap.size = w.heap.size + 1 + 1 from by simp] at this
    exact this

set_option maxRecDepth 100000 in
set_option maxHeartbeats 4000000 in
theorem ref_of (z : Int) (hz1 : -9223372036854775808 ≤ z) (hz2 : z ≤ 9223372036854775807) (w : World) :
    Calls Tryz.prog 37 #[.int .i64 z] w (RetQ (z : Rat) w) := by
  have hu : U (z.natAbs : Int) := by unfold U; omega
  obtain ⟨V, hW, Br, s1, s2, hb0⟩ := lits2 w #[.bool false, .slice none 0 0, .slice none 0 0] (z.natAbs : Int) 1 hu U_1
  have MK := ref_make (N := 1) (decide (z < 0)) s1 s2 (by omega) (by omega) (by omega) (by rw [val_one]; decide)
  rw [val_one, val_one, Int.toNat_natCast, show (1 : Int).toNat = 1 from rfl, of_rq] at MK
  generalize (z : Rat) = X at *
  by_cases hz : z < 0
  · have e : IntKind.u64.wrap (-(IntKind.u64.wrap z)) = (z.natAbs : Int) := by rw [wrapU, wrapU]; omega
    rw [decide_eq_true hz] at MK
    generalize ((z.natAbs : Nat) : Int) = m at *
    have HMK := Lib.hid MK
    have HW := Lib.hid hW
    have HBr := Lib.hid Br
    clear MK hW Br s1 s2 hu
    go_enter Tryz.func37, Tryz.ntmps37
    go_wp2_with fail
    rw [HW.out]
    refine HMK.out.mono ?_
    rintro _ w3 ⟨s3, A3, n3, c3, A4, n4, c4, rfl, q3, x3⟩
    have B3 := HBr.out.below' x3
    obtain ⟨⟨r0, r1, r2⟩, f0, f1, f2⟩ := B3.three
    go_wp2_with fail
    refine bodyPost_ret (v := .agg #[.bool s3, .slice A3 n3 c3, .slice A4 n4 c4]) (by simp [results, Tryz.results37, go_sem, r0, r1, r2]) rfl ?_
    exact ⟨_, _, _, _, _, _, _, rfl, q3.put3 ⟨_, _, _, _, _, _, _, B3⟩, below_put3 (bb hb0 x3) (by omega) (Nat.le_refl _) _ _ _⟩
  · have e : IntKind.u64.wrap z = (z.natAbs : Int) := by rw [wrapU]; omega
    have hzz : ((z.natAbs : Nat) : Int) = z := by omega
    rw [hzz] at hW e
    rw [decide_eq_false hz] at MK
    have HMK := Lib.hid MK
    have HW := Lib.hid hW
    have HBr := Lib.hid Br
    clear MK hW Br s1 s2 hu hzz
    go_enter Tryz.func37, Tryz.ntmps37
    go_wp2_with fail
    rw [HW.out]
    refine HMK.out.mono ?_
    rintro _ w3 ⟨s3, A3, n3, c3, A4, n4, c4, rfl, q3, x3⟩
    have B3 := HBr.out.below' x3
    obtain ⟨⟨r0, r1, r2⟩, f0, f1, f2⟩ := B3.three
    go_wp2_with fail
    refine bodyPost_ret (v := .agg #[.bool s3, .slice A3 n3 c3, .slice A4 n4 c4]) (by simp [results, Tryz.results37, go_sem, r0, r1, r2]) rfl ?_
    exact ⟨_, _, _, _, _, _, _, rfl, q3.put3 ⟨_, _, _, _, _, _, _, B3⟩, below_put3 (bb hb0 x3) (by omega) (Nat.le_refl _) _ _ _⟩

end Go.Proofs.YthpbaaanbimapaaGreatDoor

namespace Go.Proofs.YthpbaaanbimapaaGreatDoor
set_option maxRecDepth 100000
open Go.RowKit
set_option linter.unusedVariables false
set_option linter.unusedSimpArgs false

def vq (q : Bool × List Int × List Int) : Bool := rightB q.1 q.2.1 q.2.2
def nq (q : Bool × List Int × List Int) : Bool := decide (q.1 = false ∧ q.2.1 = [] ∧ q.2.2 = [])
end Go.Proofs.YthpbaaanbimapaaGreatDoor

namespace Go.Proofs.YthpbaaanbimapaaGreatDoor
set_option maxRecDepth 100000
open Go.RowKit
set_option linter.unusedVariables false
set_option linter.unusedSimpArgs false

def bitsQ (X : Rat) : Int := max (blen X.num.natAbs : Int) (blen X.den)
/-- a value that is not too great -/
def big (r : Except Int Rat) : Except Int Rat := match r with
  | .error e => .error e
  | .ok X => if 4096 < bitsQ X then .error 5 else .ok X
theorem big_yes {X : Rat} (h : ¬ 4096 < bitsQ X) : big (.ok X) = .ok X := by show (if _ then _ else _) = _; rw [if_neg h]
/-- the number that a sign and two lists of words say -/
def qval (q : Bool × List Int × List Int) : Rat := rq q.1 (val q.2.1) (val q.2.2)
/-- what an instruction comes to, by the values of those ahead; fs: the forms that are left -/
def raw (ins fs : List Rat) (x : PI) (v : List Rat) : Except Int Rat :=
  if x.op = 1 then (if x.a.toNat < ins.length then .ok (ins.getD x.a.toNat 0) else .error 11)
  else if x.op = 2 then .ok (qval x.q)
  else if x.op = 3 then .ok (-(v.getD x.a.toNat 0))
  else if x.op = 4 then .ok (v.getD x.a.toNat 0 + v.getD x.b.toNat 0)
  else if x.op = 5 then .ok (v.getD x.a.toNat 0 - v.getD x.b.toNat 0)
  else if x.op = 6 then .ok (v.getD x.a.toNat 0 * v.getD x.b.toNat 0)
  else if x.op = 7 then (if v.getD x.b.toNat 0 = 0 then .error 4 else .ok (v.getD x.a.toNat 0 / v.getD x.b.toNat 0))
  else if 0 < fs.length then .ok (fs.getD 0 0) else .error 6
/-- one step of the whole -/
def exSt (ins forms : List Rat) (l : List PI) (i : Nat) (x : PI) (v : List Rat) : Except Int Rat := big (raw ins (forms.drop (countTo isF l i)) x v)
section
variable {ins fs v : List Rat} {a b : Int} {q : Bool × List Int × List Int}
theorem raw_in (h : a.toNat < ins.length) : raw ins fs ⟨1, a, b, q⟩ v = .ok (ins.getD a.toNat 0) := by unfold raw; rw [if_pos rfl, if_pos h]
theorem raw_const : raw ins fs ⟨2, a, b, q⟩ v = .ok (qval q) := rfl
theorem raw_neg : raw ins fs ⟨3, a, b, q⟩ v = .ok (-(v.getD a.toNat 0)) := rfl
theorem raw_add : raw ins fs ⟨4, a, b, q⟩ v = .ok (v.getD a.toNat 0 + v.getD b.toNat 0) := rfl
theorem raw_sub : raw ins fs ⟨5, a, b, q⟩ v = .ok (v.getD a.toNat 0 - v.getD b.toNat 0) := rfl
theorem raw_mul : raw ins fs ⟨6, a, b, q⟩ v = .ok (v.getD a.toNat 0 * v.getD b.toNat 0) := rfl
theorem raw_div (h : ¬ v.getD b.toNat 0 = 0) : raw ins fs ⟨7, a, b, q⟩ v = .ok (v.getD a.toNat 0 / v.getD b.toNat 0) := by
  show (if v.getD b.toNat 0 = 0 then _ else _) = _; rw [if_neg h]
theorem raw_div_no (h : v.getD b.toNat 0 = 0) : raw ins fs ⟨7, a, b, q⟩ v = .error 4 := by
  show (if v.getD b.toNat 0 = 0 then _ else _) = _; rw [if_pos h]
theorem raw_form_no {op : Int} (hf : isForm op = true) (h : ¬ 0 < fs.length) : raw ins fs ⟨op, a, b, q⟩ v = .error 6 := by
  unfold isForm at hf
  simp at hf
  unfold raw
  simp only
  rw [if_neg (by omega), if_neg (by omega), if_neg (by omega), if_neg (by omega), if_neg (by omega), if_neg (by omega), if_neg (by omega), if_neg h]
end
/-- all of these numbers are below W^N -/
def AllSz (N : Nat) (v : List Rat) : Prop := ∀ X ∈ v, Sz X N
theorem AllSz.at_ {N : Nat} {v : List Rat} (h : AllSz N v) {i : Nat} (hi : i < v.length) : Sz (v.getD i 0) N := by
  rw [List.getD_eq_getElem?_getD, List.getElem?_eq_getElem hi]; exact h _ (List.getElem_mem hi)
theorem AllSz.snoc {N : Nat} {v : List Rat} {X : Rat} (h : AllSz N v) (hX : Sz X N) : AllSz N (v ++ [X]) := by
  intro Y hY
  rcases List.mem_append.1 hY with hY | hY
  · exact h Y hY
  · rw [List.mem_singleton.1 hY]; exact hX
end Go.Proofs.YthpbaaanbimapaaGreatDoor

namespace Go.Proofs.YthpbaaanbimapaaGreatDoor
set_option maxRecDepth 100000
open Go.RowKit
set_option linter.unusedVariables false
set_option linter.unusedSimpArgs false

theorem flat_len {V : Type} {cells : V → List Value} {k : Nat} : ∀ (xs : List V), (∀ x ∈ xs, (cells x).length = k) → (xs.flatMap cells).length = xs.length * k
  | [], _ => by simp
  | x :: xs, h => by
    rw [List.flatMap_cons, List.length_append, h x (by simp), flat_len xs (fun y hy => h y (by simp [hy])), List.length_cons, Nat.add_mul]
    omega
theorem flat_at {V : Type} {cells : V → List Value} {k : Nat} : ∀ (xs : List V), (∀ x ∈ xs, (cells x).length = k) → ∀ j i, i < k → (xs.flatMap cells)[j * k + i]? = (xs[j]?).bind fun x => (cells x)[i]?
  | [], _, j, i, _ => by simp
  | x :: xs, h, 0, i, hi => by
    rw [List.flatMap_cons, Nat.zero_mul, Nat.zero_add, List.getElem?_append_left (by rw [h x (by simp)]; exact hi)]; rfl
  | x :: xs, h, j + 1, i, hi => by
    have hx := h x (by simp)
    rw [List.flatMap_cons, List.getElem?_append_right (by rw [hx, Nat.add_mul]; omega), hx, show (j + 1) * k + i - k = j * k + i by rw [Nat.add_mul]; omega,
      flat_at xs (fun y hy => h y (by simp [hy])) j i hi]
    rfl
/-- no word -/
def NoW (u : Value) : Prop := ∀ x : Int, u ≠ .int .u64 x
def NoWAt (w : World) (g : Nat) : Prop := ∀ (i : Nat) (x : Int), w.cell? ⟨g, i, none⟩ ≠ some (.int .u64 x)
/-- the slice value v owns, from block B on, the elements xs, of k cells each, none a word -/
def OwnC (k : Nat) {V : Type} (cells : V → List Value) (t : TypeId) (B : Nat) (w : World) (v : Value) (xs : List V) : Prop :=
  (∀ x ∈ xs, (cells x).length = k) ∧ ((v = .slice none 0 0 ∧ xs = []) ∨
    ∃ g cap cur, v = .slice (some ⟨g, 0, none⟩) xs.length cap ∧ B ≤ g ∧ w.heap[g]? = some (.cells cur t (0, 0)) ∧ xs.length ≤ cap ∧ cap ≤ maxLen ∧ cur.size = cap * k ∧
      cur.toList.take (xs.length * k) = xs.flatMap cells ∧ ∀ u ∈ cur.toList, NoW u)
section
variable {k : Nat} {V : Type} {cells : V → List Value} {t : TypeId} {B : Nat} {w w' : World} {v : Value} {xs : List V}
theorem OwnC.nil : OwnC k cells t B w (.slice none 0 0) [] := ⟨by simp, .inl ⟨rfl, rfl⟩⟩
theorem OwnC.form (h : OwnC k cells t B w v xs) : ∃ A c, v = .slice A xs.length c ∧ xs.length ≤ c ∧ c ≤ maxLen := by
  rcases h with ⟨_, ⟨rfl, rfl⟩ | ⟨g, cap, cur, rfl, _, _, h1, h2, _⟩⟩
  · exact ⟨none, 0, rfl, Nat.le_refl _, by unfold maxLen; omega⟩
  · exact ⟨_, _, rfl, h1, h2⟩
theorem OwnC.own (h : OwnC k cells t B w v xs) : w.ownsRow B t k v xs.length (xs.flatMap cells) := by
  refine ⟨flat_len xs h.1, ?_⟩
  rcases h.2 with ⟨rfl, rfl⟩ | ⟨g, cap, cur, e, h1, h2, h3, h4, h5, h6, _⟩
  · exact .inl ⟨rfl, rfl⟩
  · exact .inr ⟨g, cap, cur, e, h1, h2, h3, h4, h5, h6⟩
theorem OwnC.noW (h : OwnC k cells t B w v xs) : ∀ g, v.ownBlock = some g → NoWAt w g := by
  intro g hg
  rcases h.2 with ⟨rfl, rfl⟩ | ⟨g', cap, cur, rfl, h1, h2, h3, h4, h5, h6, h7⟩
  · cases hg
  · have e : g' = g := by simpa [Value.ownBlock] using hg
    subst e
    intro i x hx
    rw [cell_of_row w g' i cur t (0, 0) h2] at hx
    have hm : (Value.int .u64 x) ∈ cur := Array.mem_of_getElem? hx
    exact h7 _ (by simpa using hm) x rfl
theorem OwnC.below (h : OwnC k cells t B w v xs) (hb : Below w.heap.size w w') : OwnC k cells t B w' v xs := by
  refine ⟨h.1, ?_⟩
  rcases h.2 with h2 | ⟨g, cap, cur, hv, hg, hh, r⟩
  · exact .inl h2
  · have hlt : g < w.heap.size := by
      rcases Nat.lt_or_ge g w.heap.size with h9 | h9
      · exact h9
      · rw [Array.getElem?_eq_none h9] at hh; cases hh
    exact .inr ⟨g, cap, cur, hv, hg, (hb.block g hlt).trans hh, r⟩
theorem OwnC.slc {ok : World → V → Prop} {A : Option Addr} {n c : Nat} (h : OwnC k cells t B w (.slice A n c) xs) (hok : ∀ x ∈ xs, ok w x) : SlC k cells ok w A n c xs := by
  rcases h with ⟨hl, ⟨e, rfl⟩ | ⟨g, cap, cur, e, h1, h2, h3, h4, h5, h6, _⟩⟩
  · injection e with e1 e2 e3
    subst e1 e2 e3
    exact ⟨⟨rfl, Nat.le_refl _, by unfold maxLen; omega, by simp⟩, fun h0 => absurd h0 (by omega)⟩
  · injection e with e1 e2 e3
    subst e1 e2 e3
    have hlt : g < w.heap.size := by
      rcases Nat.lt_or_ge g w.heap.size with h9 | h9
      · exact h9
      · rw [Array.getElem?_eq_none h9] at h2; cases h2
    refine ⟨⟨rfl, h3, h4, fun x hx => ⟨hok x hx, hl x hx⟩⟩, fun h0 => ⟨g, 0, rfl, hlt, fun j hj i hi => ?_⟩⟩
    rw [← flat_at xs hl j i hi, ← h6, cell_of_row w g _ cur t (0, 0) h2, Nat.zero_add, List.getElem?_take, if_pos]
    · simp
    · have : (j + 1) * k ≤ xs.length * k := Nat.mul_le_mul_right _ hj
      rw [Nat.add_mul] at this
      omega
/-- the words of a number elsewhere stay -/
theorem Sl.grownC {w1 : World} {r : Option Nat} {A : Option Addr} {n c : Nat} {zs : List Int} (s : Sl w A n c zs) (hg : w.grownBy w1 r) (hr : ∀ g, r = some g → NoWAt w g) : Sl w1 A n c zs := by
  refine ⟨s.1, fun h0 => ?_⟩
  obtain ⟨b, off, e, hlt, hc⟩ := s.2 h0
  have hne : some b ≠ r := by
    intro e2
    have := hc 0 h0
    exact hr b e2.symm _ _ this
  have hsz := hg.size
  refine ⟨b, off, e, by omega, fun j hj => ?_⟩
  have hbl := hg.block b hlt hne
  have e1 : w1.cell? ⟨b, off + j, none⟩ = w.cell? ⟨b, off + j, none⟩ := World.cell?_of_block (a := ⟨b, off + j, none⟩) hbl
  rw [e1]
  exact hc j hj
theorem RQ.grownC {w1 : World} {r : Option Nat} {x : RQ} (s : x.ok w) (hg : w.grownBy w1 r) (hr : ∀ g, r = some g → NoWAt w g) : x.ok w1 := ⟨s.1.grownC hg hr, s.2.1.grownC hg hr, s.2.2⟩
theorem RI.grownC {w1 : World} {r : Option Nat} {x : RI} (s : x.ok w) (hg : w.grownBy w1 r) (hr : ∀ g, r = some g → NoWAt w g) : x.ok w1 := ⟨s.1, s.2.1, s.2.2.1, RQ.grownC s.2.2.2 hg hr⟩
end
theorem mem_zeroCells {z : Array Value} {n : Nat} (hz : 0 < z.size) {u : Value} (h : u ∈ (Builtin.zeroCells z n).toList) : u ∈ z.toList := by
  unfold Builtin.zeroCells at h
  simp only [Array.toList_map, List.mem_map] at h
  obtain ⟨i, _, rfl⟩ := h
  have hlt := Nat.mod_lt i hz
  rw [getElem!_pos z (i % z.size) hlt]
  simp
theorem NoW_bool (b : Bool) : NoW (.bool b) := fun x h => by cases h
theorem NoW_slice (A : Option Addr) (n c : Nat) : NoW (.slice A n c) := fun x h => by cases h
theorem NoW_i64 (z : Int) : NoW (.int .i64 z) := fun x h => by injection h with h; cases h
end Go.Proofs.YthpbaaanbimapaaGreatDoor

namespace Go.Proofs.YthpbaaanbimapaaGreatDoor
set_option maxRecDepth 100000
open Go.RowKit
set_option linter.unusedVariables false
set_option linter.unusedSimpArgs false

/-- below B all blocks but g stay -/
def KX (B g : Nat) (W W' : World) : Prop := W.heap.size ≤ W'.heap.size ∧ ∀ b, b < B → b ≠ g → W'.heap[b]? = W.heap[b]?
theorem KX.refl (B g : Nat) (W : World) : KX B g W W := ⟨Nat.le_refl _, fun _ _ _ => rfl⟩
theorem KX.trans {B g : Nat} {X Y Z : World} (h : KX B g X Y) (k : KX B g Y Z) : KX B g X Z := ⟨Nat.le_trans h.1 k.1, fun b h1 h2 => (k.2 b h1 h2).trans (h.2 b h1 h2)⟩
theorem KX.cell {B g : Nat} {W W' : World} (h : KX B g W W') {b i : Nat} (h1 : b < B) (h2 : b ≠ g) : W'.cell? ⟨b, i, none⟩ = W.cell? ⟨b, i, none⟩ := World.cell?_of_block (a := ⟨b, i, none⟩) (h.2 b h1 h2)
/-- a row of truths -/
def BRow (w : World) (g : Nat) (bs : List Bool) : Prop := Box 4 w g (bs.map Value.bool).toArray
theorem BRow.cell {w : World} {g : Nat} {bs : List Bool} (h : BRow w g bs) {i : Nat} (hi : i < bs.length) : w.cell? ⟨g, i, none⟩ = some (.bool (bs.getD i false)) := by
  rw [Box.cell h]
  simp [List.getD, hi]
theorem BRow.free {w : World} {g : Nat} {bs : List Bool} (h : BRow w g bs) (i : Nat) : w.frozen? ⟨g, i, none⟩ = false := Box.free h i
theorem BRow.set {w : World} {g : Nat} {bs : List Bool} (h : BRow w g bs) (i : Nat) (b : Bool) : BRow (w.setCell ⟨g, i, none⟩ (.bool b)) g (bs.set i b) := by
  unfold BRow Box at *
  unfold World.setCell
  simp [Array.getElem?_modify, h, List.map_set]
theorem BRow.lt {w : World} {g : Nat} {bs : List Bool} (h : BRow w g bs) : g < w.heap.size := Box.lt h
theorem KX.of_below {g : Nat} {W W' : World} (h : Below W.heap.size W W') : KX W.heap.size g W W' := ⟨h.size, fun b hb _ => h.block b hb⟩
theorem KX.mono {B B' g : Nat} {W W' : World} (h : KX B g W W') (hB : B' ≤ B) : KX B' g W W' := ⟨h.1, fun b h1 h2 => h.2 b (by omega) h2⟩
theorem KX.setCell {B g i : Nat} {W W' : World} (h : KX B g W W') (v : Value) : KX B g W (W'.setCell ⟨g, i, none⟩ v) := by
  have hk := (Keep.refl g W').setCell i v
  refine ⟨Nat.le_trans h.1 hk.size, fun b h1 h2 => ?_⟩
  by_cases hlt : b < W'.heap.size
  · exact (hk.block b hlt h2).trans (h.2 b h1 h2)
  · have e1 : W.heap[b]? = none := Array.getElem?_eq_none (by have := h.1; omega)
    rw [e1, Array.getElem?_eq_none]
    have : (W'.setCell ⟨g, i, none⟩ v).heap.size = W'.heap.size := by unfold World.setCell; simp
    omega

/-- a block in which a cell lies is a block of cells -/
theorem cells_of_cell {w : World} {b i : Nat} {v : Value} (h : w.cell? ⟨b, i, none⟩ = some v) : ∃ o, w.heap[b]? = some o ∧ o.isCells = true := by
  unfold World.cell? at h
  split at h
  · rename_i c t f hh
    exact ⟨_, hh, rfl⟩
  · cases h
/-- all blocks of cells stay but those of X -/
def KC (X : Nat → Prop) (W W' : World) : Prop := W.heap.size ≤ W'.heap.size ∧ ∀ b o, ¬ X b → W.heap[b]? = some o → o.isCells = true → W'.heap[b]? = some o
section
variable {X : Nat → Prop} {W W' : World}
theorem KC.refl (X : Nat → Prop) (W : World) : KC X W W := ⟨Nat.le_refl _, fun _ _ _ h _ => h⟩
theorem KC.trans {A B C : World} (h : KC X A B) (k : KC X B C) : KC X A C := ⟨Nat.le_trans h.1 k.1, fun b o hx hb ho => k.2 b o hx (h.2 b o hx hb ho) ho⟩
theorem KC.of_below (h : Below W.heap.size W W') : KC X W W' := ⟨h.size, fun b o _ hb _ => (h.block b (Array.getElem?_eq_some_iff.1 hb).1).trans hb⟩
theorem KC.setCell {A : World} {g : Nat} (h : KC X A W) (hg : X g) (i : Nat) (v : Value) : KC X A (W.setCell ⟨g, i, none⟩ v) := by
  have hk := (Keep.refl g W).setCell i v
  refine ⟨Nat.le_trans h.1 hk.size, fun b o hx hb ho => ?_⟩
  have h1 := h.2 b o hx hb ho
  exact (hk.block b (Array.getElem?_eq_some_iff.1 h1).1 (fun e => hx (e ▸ hg))).trans h1
theorem KC.mono {Y : Nat → Prop} (h : KC X W W') (hs : ∀ b, X b → Y b) : KC Y W W' := ⟨h.1, fun b o hx hb ho => h.2 b o (fun h9 => hx (hs b h9)) hb ho⟩
theorem KC.cell (k : KC X W W') {b i : Nat} {v : Value} (hx : ¬ X b) (h : W.cell? ⟨b, i, none⟩ = some v) : W'.cell? ⟨b, i, none⟩ = some v := by
  obtain ⟨o, ho, hc⟩ := cells_of_cell h
  exact (World.cell?_of_block (a := ⟨b, i, none⟩) ((k.2 b o hx ho hc).trans ho.symm)).trans h
end
end Go.Proofs.YthpbaaanbimapaaGreatDoor
