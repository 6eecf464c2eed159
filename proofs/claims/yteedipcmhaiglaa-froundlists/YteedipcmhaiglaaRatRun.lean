/-
  What rat's small functions do: isZero, signed, Make, Of, Sign, told by Lean's own Rat. Conditions: the slices read as lists of words, of at most 1000 words.
-/
import Derived.Test.YteedipcmhaiglaaRatMem
import Derived.Deep.RegionHeld3
namespace Go.Proofs.Yteedipcmhaiglaa
set_option maxRecDepth 100000
open Go.RowKit
set_option linter.unusedVariables false
set_option linter.unusedSimpArgs false

set_option maxHeartbeats 1000000 in
theorem rat_isZero {w : World} {A : Option Addr} {n c : Nat} {xs : List Int} (h : Sl w A n c xs) (hn : n ≤ 1000000) :
    Calls Try.prog 90 #[.slice A n c] w fun e w' => e = .returned (.bool (decide (val xs = 0))) ∧ w = w' := by
  have NB := nat_bits h (by omega)
  have ez : (((blen (val xs) : Nat) : Int) == 0) = decide (val xs = 0) := by
    rw [Bool.eq_iff_iff]
    simp only [beq_iff_eq, decide_eq_true_eq]
    constructor
    · intro e
      by_cases hv : val xs = 0
      · exact hv
      · have := blen_pos (Nat.pos_of_ne_zero hv); omega
    · intro e; rw [e]; rfl
  generalize ((blen (val xs) : Nat) : Int) = bl at *
  obtain ⟨b, hb⟩ : ∃ b, decide (val xs = 0) = b := ⟨_, rfl⟩
  rw [hb] at ez ⊢
  have HN := Lib.hid NB
  clear NB hb
  go_enter Try.func90, Try.ntmps90
  go_wp2_with fail
  refine HN.out.mono ?_
  rintro e w' ⟨rfl, rfl⟩
  go_wp2_with fail
  go_ret
  exact ⟨rfl, rfl⟩

set_option maxHeartbeats 1000000 in
theorem rat_signed {w : World} {A A' : Option Addr} {n n' c c' : Nat} {p q : Nat} (s : Bool) (h : Sl w A n c (words p)) (h' : Sl w A' n' c' (words q)) (hn : n ≤ 1000000) (h0 : q ≠ 0) (hg : Nat.gcd p q = 1) :
    Calls Try.prog 92 #[.bool s, .slice A n c, .slice A' n' c'] w (RetQ (rq s p q) w) := by
  have Z := fun w1 (hb : Below w.heap.size w w1) => rat_isZero (h.below hb) hn
  rw [val_words] at Z
  obtain ⟨h1, h2, h3⟩ := rq_cop' (s := s) h0 hg
  have hq : ∀ w' : World, Sl w' A n c (words p) → Sl w' A' n' c' (words q) → Q w' (neg_ (rq s p q)) A n c A' n' c' (rq s p q) := fun w' a b => ⟨rfl, by rw [h1]; exact a, by rw [h2]; exact b⟩
  generalize rq s p q = X at *
  have HQ := Lib.hid hq
  have HZ := Lib.hid Z
  have HH := Lib.hid h
  have HH' := Lib.hid h'
  have H3 := Lib.hid h3
  clear hq Z h h' h1 h2 h3
  cases s
  · go_enter Try.func92, Try.ntmps92
    go_wp2_with fail
    have hs := H3.out
    rw [Bool.false_and] at hs
    refine bodyPost_ret (v := .agg #[.bool false, .slice A n c, .slice A' n' c']) (by simp [results, Try.results92, go_sem]) rfl ?_
    refine ⟨false, A, n, c, A', n', c', rfl, ?_, below_alloc _ _⟩
    rw [← hs]
    exact HQ.out _ (HH.out.below (below_alloc _ _)) (HH'.out.below (below_alloc _ _))
  · go_enter Try.func92, Try.ntmps92
    go_wp2_with fail
    refine (HZ.out _ ?_).mono ?_
    · exact below_alloc _ _
    rintro e w' ⟨rfl, rfl⟩
    go_wp2_with fail
    have hs := H3.out
    rw [Bool.true_and] at hs
    have hs2 : (!decide (p = 0)) = neg_ X := by rw [hs]; simp
    refine bodyPost_ret (v := .agg #[.bool (!decide (p = 0)), .slice A n c, .slice A' n' c']) (by simp [results, Try.results92, go_sem]) rfl ?_
    refine ⟨_, A, n, c, A', n', c', rfl, ?_, below_alloc _ _⟩
    rw [hs2]
    exact HQ.out _ (HH.out.below (below_alloc _ _)) (HH'.out.below (below_alloc _ _))

set_option maxHeartbeats 1000000 in
theorem rat_make_zero {w : World} {A A' : Option Addr} {n n' c c' : Nat} {xs ys : List Int} (s : Bool) (h' : Sl w A' n' c' ys) (hn' : n' ≤ 1000000) (h0 : val ys = 0) :
    Calls Try.prog 67 #[.bool s, .slice A n c, .slice A' n' c'] w (RetNo 4 w) := by
  have Z := fun w1 (hb : Below w.heap.size w w1) => rat_isZero (h'.below hb) hn'
  rw [decide_eq_true h0] at Z
  have HZ := Lib.hid Z
  clear Z h0
  go_enter Try.func67, Try.ntmps67
  go_wp2_with fail
  refine (HZ.out _ (below_alloc _ _)).mono ?_
  rintro e w' ⟨rfl, rfl⟩
  go_wp2_with fail
  exact bodyPost_ret (v := .tuple #[.agg #[.bool false, .slice none 0 0, .slice none 0 0], .int .i64 4]) (by simp [results, Try.results67, go_sem]) rfl ⟨rfl, below_alloc _ _⟩

set_option maxHeartbeats 1000000 in
theorem rat_make {w : World} {A A' : Option Addr} {n n' c c' : Nat} {xs ys : List Int} (s : Bool) (h : Sl w A n c xs) (h' : Sl w A' n' c' ys) (hn : n ≤ 100000) (hn' : n' ≤ 100000) (h0 : val ys ≠ 0) :
    Calls Try.prog 67 #[.bool s, .slice A n c, .slice A' n' c'] w (RetQE (rq s (val xs) (val ys)) 0 w) := by
  have Z := fun w1 (hb : Below w.heap.size w w1) => rat_isZero (h'.below hb) (by omega)
  rw [decide_eq_false h0] at Z
  have RD := fun w1 (hb : Below w.heap.size w w1) => gcd_reduce (N := 100000) (h.below hb) (h'.below hb) (by omega) (by omega) (by omega)
  have hred := rq_red s (val xs) (val ys) h0
  rw [hred]
  have hp : val xs < W ^ n := val_lt_pow h.us (by have := h.len; omega)
  have hps := Nat.lt_of_le_of_lt (Nat.div_le_self (val xs) (Nat.gcd (val xs) (val ys))) hp
  have hc : Nat.gcd (val xs / Nat.gcd (val xs) (val ys)) (val ys / Nat.gcd (val xs) (val ys)) = 1 := Nat.gcd_div_gcd_div_gcd_of_pos_right (Nat.pos_of_ne_zero h0)
  have hq : val ys / Nat.gcd (val xs) (val ys) ≠ 0 := by
    have hg : 0 < Nat.gcd (val xs) (val ys) := Nat.pos_of_ne_zero fun e => h0 (Nat.eq_zero_of_gcd_eq_zero_right e)
    have := Nat.div_pos (Nat.le_of_dvd (Nat.pos_of_ne_zero h0) (Nat.gcd_dvd_right (val xs) (val ys))) hg
    omega
  generalize val xs / Nat.gcd (val xs) (val ys) = p at *
  generalize val ys / Nat.gcd (val xs) (val ys) = q at *
  have HZ := Lib.hid Z
  have HR := Lib.hid RD
  have HC := Lib.hid hc
  have HP := Lib.hid hps
  clear Z RD h0 hred hc hps hp
  go_enter Try.func67, Try.ntmps67
  go_wp2_with fail
  refine (HZ.out _ (below_alloc _ _)).mono ?_
  rintro e w' ⟨rfl, rfl⟩
  go_wp2_with fail
  refine (HR.out _ (below_alloc _ _)).mono ?_
  rintro e w1 ⟨A1, n1, c1, A2, n2, c2, rfl, s1, s2, b1⟩
  have l1 : n1 ≤ n := s1.small HP.out
  go_wp2_with fail
  refine (rat_signed s s1 s2 (by omega) hq HC.out).mono ?_
  rintro e w2 ⟨s', A3, n3, c3, A4, n4, c4, rfl, q3, b2⟩
  have B2 := ((Box.new w 39 _).below' b1).below' b2
  obtain ⟨⟨k0, k1, k2⟩, f0, f1, f2⟩ := B2.three
  go_wp2_with fail
  refine bodyPost_ret (v := .tuple #[.agg #[.bool s', .slice A3 n3 c3, .slice A4 n4 c4], .int .i64 0]) (by simp [results, Try.results67, go_sem, k0, k1, k2]) rfl ?_
  exact ⟨_, _, _, _, _, _, _, rfl, q3.put3 ⟨_, _, _, _, _, _, _, B2⟩, below_put3 ((below_alloc w _).trans ((b1.trans (b2.mono b1.size)).mono (by simp))) (Nat.le_refl _) (Nat.le_refl _) _ _ _⟩

theorem of_rq (z : Int) : rq (decide (z < 0)) z.natAbs 1 = (z : Rat) := by
  unfold rq
  have e : sI (decide (z < 0)) z.natAbs = z := by unfold sI; by_cases h : z < 0 <;> simp [h] <;> omega
  rw [e]
  have := Rat.mkRat_self (z : Rat)
  simpa using this
end Go.Proofs.Yteedipcmhaiglaa
