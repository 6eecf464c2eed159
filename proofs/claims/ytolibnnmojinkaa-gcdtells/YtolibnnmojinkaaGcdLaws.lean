/-
  The walks of the laws of layer 5: each returns true for any numbers. Conditions: the slices read as lists of words.
-/
import Derived.Test.YtolibnnmojinkaaRefGcd
namespace Go.Proofs.Ytolibnnmojinkaa
open Go.RowKit
set_option linter.unusedVariables false
set_option linter.unusedSimpArgs false

theorem words_small (v : Nat) (h0 : 0 < v) (h : v < W) : words v = [(v : Int)] := by
  have := words_single (x := (v : Int)) (by unfold U; unfold W at h; omega) (by omega)
  rwa [Int.toNat_natCast] at this
theorem gcd_ex : words (Nat.gcd (val [12]) (val [18])) = [6] ∧ words (val [12] / Nat.gcd (val [12]) (val [18])) = [2] ∧ words (val [18] / Nat.gcd (val [12]) (val [18])) = [3] := by
  have e : Nat.gcd (val [12]) (val [18]) = 6 := by decide
  have e1 : val [12] = 12 := by decide
  have e2 : val [18] = 18 := by decide
  rw [e, e1, e2, words_small 6 (by omega) (by unfold W; omega), words_small (12 / 6) (by omega) (by unfold W; omega), words_small (18 / 6) (by omega) (by unfold W; omega)]
  decide
/-- two literals of one word, one after the other -/
theorem two_lits (w : World) (x y : Int) (hx : U x) (hy : U y) : Sl ((w.alloc (.cells #[.int .u64 x] 28)).alloc (.cells #[.int .u64 y] 28)) (some ⟨w.heap.size, 0, none⟩) 1 1 [x] ∧ Sl ((w.alloc (.cells #[.int .u64 x] 28)).alloc (.cells #[.int .u64 y] 28)) (some ⟨w.heap.size + 1, 0, none⟩) 1 1 [y] ∧ Below w.heap.size w ((w.alloc (.cells #[.int .u64 x] 28)).alloc (.cells #[.int .u64 y] 28)) := by
  have s2 := sl_lit (w.alloc (.cells #[.int .u64 x] 28)) y hy
  rw [show (w.alloc (.cells #[.int .u64 x] 28)).heap.size = w.heap.size + 1 from by simp] at s2
  exact ⟨(sl_lit w x hx).below (below_alloc _ _), s2, (below_alloc w _).alloc (by simp) _⟩

set_option maxHeartbeats 1000000 in
theorem same05 (w : World) : Calls Try.prog 6 #[] w fun e w' => e = .returned (.bool true) ∧ Below w.heap.size w w' := by
  have T := fun w => two_lits w 12 18 (by unfold U; omega) (by unfold U; omega)
  have C1 := fun w => gcd_gcd (N := 1) (T w).1 (T w).2.1 (by omega) (by omega) (by omega)
  have C2 := fun w => gcd_reduce (N := 1) (T w).1 (T w).2.1 (by omega) (by omega) (by omega)
  simp only [gcd_ex.1] at C1
  have HC1 := Lib.hid C1
  have HC2 := Lib.hid C2
  have HB := Lib.hid (fun w => (T w).2.2)
  clear C1 C2 T
  go_enter Try.func6, Try.ntmps6
  go_wp2_with fail
  refine (HC1.out _).mono ?_
  rintro e w1 ⟨A1, n1, c1, rfl, s1, b1⟩
  have hb1 := (HB.out w).trans (b1.mono (HB.out w).size)
  obtain rfl : n1 = 1 := s1.len
  clear b1
  go_wp2_with fail
  refine (HC2.out _).mono ?_
  rintro e w2 ⟨A2, n2, c2, A3, n3, c3, rfl, s2, s3, b2⟩
  rw [gcd_ex.2.1] at s2
  rw [gcd_ex.2.2] at s3
  obtain rfl : n2 = 1 := s2.len
  obtain rfl : n3 = 1 := s3.len
  have hb1a := HB.out w1
  have s1' := (s1.below hb1a).below b2
  have hb2 := (hb1.trans (hb1a.mono hb1.size)).trans (b2.mono (hb1.trans (hb1a.mono hb1.size)).size)
  obtain ⟨p1, o1, rfl, _, h1⟩ := s1'.at_ (k := 0) (by omega)
  obtain ⟨p2, o2, rfl, _, h2⟩ := s2.at_ (k := 0) (by omega)
  obtain ⟨p3, o3, rfl, _, h3⟩ := s3.at_ (k := 0) (by omega)
  have k1 : w2.cell? ⟨p1, o1, none⟩ = some (.int .u64 6) := h1 0 (by omega)
  have k2 : w2.cell? ⟨p2, o2, none⟩ = some (.int .u64 2) := h2 0 (by omega)
  have k3 : w2.cell? ⟨p3, o3, none⟩ = some (.int .u64 3) := h3 0 (by omega)
  clear h1 h2 h3 s1 s2 s3 s1' b2 hb1 hb1a HC1 HC2 HB
  go_wp2_with fail
  go_ret
  exact ⟨rfl, hb2⟩

theorem words_len0 (r : Nat) : (((words r).length : Int) == 0) = decide (r = 0) := by
  by_cases h : r = 0
  · subst h; rw [decide_eq_true rfl]; rfl
  · rw [decide_eq_false h]
    have : (words r).length ≠ 0 := fun e => h (by rw [← val_words r, List.eq_nil_of_length_eq_zero e]; rfl)
    simp
    intro e; rw [e] at this; simp at this

set_option maxHeartbeats 1000000 in
theorem law_divides {w : World} {A A' : Option Addr} {n n' c c' : Nat} {xs ys : List Int} (h : Sl w A n c xs) (h' : Sl w A' n' c' ys) (hn : n ≤ 1000) (hn' : n' ≤ 1000) :
    Calls Try.prog 15 #[.slice A n c, .slice A' n' c'] w fun e w' => e = .returned (.bool (decide (val xs ∣ val ys))) ∧ Below w.heap.size w w' := by
  have za : val xs = 0 ↔ sz xs = 0 := valB_zero_iff W_pos (Dg_U h.us)
  have zb : val ys = 0 ↔ sz ys = 0 := valB_zero_iff W_pos (Dg_U h'.us)
  have ZA := ref_size h (by omega)
  have ZB := ref_size h' (by omega)
  obtain ⟨b, hb⟩ : ∃ b, decide (val xs ∣ val ys) = b := ⟨_, rfl⟩
  rw [hb]
  by_cases ha : sz xs = 0
  · rw [ha] at ZA
    have e : ((sz ys : Int) == 0) = b := by
      rw [← hb, za.2 ha]
      by_cases h0 : val ys = 0
      · rw [zb.1 h0, decide_eq_true (Nat.zero_dvd.2 h0)]; rfl
      · rw [decide_eq_false (fun e => h0 (Nat.zero_dvd.1 e))]
        have : sz ys ≠ 0 := fun e => h0 (zb.2 e)
        simp; omega
    generalize ((sz ys : Nat) : Int) = q at *
    have HZ := Lib.hid ZA
    have HZB := Lib.hid ZB
    clear ZA ZB za zb ha hb
    go_enter Try.func15, Try.ntmps15
    go_wp2_with fail
    refine HZ.out.mono ?_
    rintro e w' ⟨rfl, rfl⟩
    go_wp2_with fail
    refine HZB.out.mono ?_
    rintro e w' ⟨rfl, rfl⟩
    go_wp2_with fail
    go_ret
    exact ⟨rfl, Below.refl _ _⟩
  · have ha0 : ((sz xs : Int) == 0) = false := by simp; omega
    have hp : 0 < val xs := Nat.pos_of_ne_zero (fun e => ha (za.1 e))
    have DV := ref_div h' h (by omega) (by omega) hp
    have e : (((words (val ys % val xs)).length : Int) == 0) = b := by
      rw [words_len0, ← hb]
      simp only [dvd_iff]
    generalize ((sz xs : Nat) : Int) = p at *
    generalize val ys % val xs = r at *
    have HZ := Lib.hid ZA
    have HD := Lib.hid DV
    have HE := Lib.hid e
    clear ZA ZB za zb ha hb hp DV e
    go_enter Try.func15, Try.ntmps15
    go_wp2_with fail
    refine HZ.out.mono ?_
    rintro e w' ⟨rfl, rfl⟩
    go_wp2_with fail
    refine HD.out.mono ?_
    rintro e w1 ⟨A1, n1, c1, A2, n2, c2, rfl, s1, s2, b1⟩
    have hl := s2.len
    have e2 := HE.out
    rw [← hl] at e2
    clear hl s1 s2 HD HE
    go_wp2_with fail
    go_ret
    exact ⟨rfl, b1⟩

/-- the word 1 alone is the number 1 -/
theorem one_word {w : World} {A : Option Addr} {n c G : Nat} (s : Sl w A n c (words G)) : (G = 1 ∧ n = 1 ∧ ∃ p o, A = some ⟨p, o, none⟩ ∧ w.cell? ⟨p, o, none⟩ = some (.int .u64 1)) ∨ (G ≠ 1 ∧ ((n : Int) == 1) = false) ∨ (G ≠ 1 ∧ n = 1 ∧ ∃ p o x, A = some ⟨p, o, none⟩ ∧ w.cell? ⟨p, o, none⟩ = some (.int .u64 x) ∧ (x == 1) = false) := by
  by_cases hn : n = 1
  · subst hn
    obtain ⟨p, o, rfl, _, hc⟩ := s.at_ (k := 0) (by omega)
    have k := hc 0 (by omega)
    rw [Nat.add_zero] at k
    have hl := s.len
    obtain ⟨x, hx⟩ : ∃ x, words G = [x] := by
      match hw : words G, hl with
      | [x], _ => exact ⟨x, rfl⟩
    have hG : G = x.toNat := by rw [← val_words G, hx, val_one]
    have hu : U x := words_U G x (by rw [hx]; simp)
    rw [hx] at k
    simp at k
    by_cases h1 : G = 1
    · left
      refine ⟨h1, rfl, p, o, rfl, ?_⟩
      have : x = 1 := by unfold U at hu; omega
      rw [← this]; exact k
    · right; right
      refine ⟨h1, rfl, p, o, x, rfl, k, ?_⟩
      simp
      intro e
      subst e
      exact h1 (by simpa using hG)
  · by_cases h1 : G = 1
    · subst h1
      have hl := s.len
      rw [words_one] at hl
      exact absurd hl hn
    · right; left
      exact ⟨h1, by simp; omega⟩

set_option maxRecDepth 100000 in
set_option maxHeartbeats 4000000 in
theorem gcdTells_walk (a0 : Option Addr) (len0 cap0 : Nat) (z0 : List Int) (a1 : Option Addr) (len1 cap1 : Nat) (z1 : List Int) (w : World) (w0 : IsRow .u64 w a0 len0 cap0 z0) (w1 : IsRow .u64 w a1 len1 cap1 z1) :
    Calls Try.prog 3 #[.slice a0 len0 cap0, .slice a1 len1 cap1] w fun e w' => e = .returned (.bool true) ∧ Below w.heap.size w w' := by
  obtain ⟨s0, _⟩ := w0.sl
  obtain ⟨s1, _⟩ := w1.sl
  clear w0 w1
  have HS := Lib.hid (fun w => same05 w)
  by_cases h0 : 8 < len0
  · go_enter Try.func3, Try.ntmps3
    go_wp2_with fail
    refine (HS.out _).mono ?_
    rintro e w' ⟨rfl, hb⟩
    go_wp2_with fail
    go_ret
    exact ⟨rfl, hb⟩
  by_cases h1 : 8 < len1
  · go_enter Try.func3, Try.ntmps3
    go_wp2_with fail
    refine (HS.out _).mono ?_
    rintro e w' ⟨rfl, hb⟩
    go_wp2_with fail
    go_ret
    exact ⟨rfl, hb⟩
  generalize z0.take len0 = xs at s0
  generalize z1.take len1 = ys at s1
  have va : val xs < W ^ 8 := val_lt_pow s0.us (by have := s0.len; omega)
  have vb : val ys < W ^ 8 := val_lt_pow s1.us (by have := s1.len; omega)
  have vg := gcd_lt va vb
  have GR := ref_gcd (N := 8) s0 s1 (by omega) (by omega) (by omega)
  have GG := fun w1 (hb : Below w.heap.size w w1) => gcd_gcd (N := 8) (s0.below hb) (s1.below hb) (by omega) (by omega) (by omega)
  have RD := fun w1 (hb : Below w.heap.size w w1) => gcd_reduce (N := 8) (s0.below hb) (s1.below hb) (by omega) (by omega) (by omega)
  have LC := fun w1 (hb : Below w.heap.size w w1) => gcd_lcm (N := 8) (s0.below hb) (s1.below hb) (by omega) (by omega) (by omega)
  have LR := fun w1 (hb : Below w.heap.size w w1) => ref_lcm (N := 8) (s0.below hb) (s1.below hb) (by omega) (by omega) (by omega)
  have CO := fun w1 (hb : Below w.heap.size w w1) => gcd_coprime (N := 8) (s0.below hb) (s1.below hb) (by omega) (by omega) (by omega)
  have PA := fun w1 (hb : Below w.heap.size w w1) (B : Option Addr) (nb cb X : Nat) (s : Sl w1 B nb cb (words X)) (hnb : nb ≤ 8) => ref_part (N := 8) (s0.below hb) s (by omega) hnb (by omega)
  have PB := fun w1 (hb : Below w.heap.size w w1) (B : Option Addr) (nb cb X : Nat) (s : Sl w1 B nb cb (words X)) (hnb : nb ≤ 8) => ref_part (N := 8) (s1.below hb) s (by omega) hnb (by omega)
  simp only [← lcm_turn] at LR
  obtain ⟨G, eG⟩ : ∃ G, Nat.gcd (val xs) (val ys) = G := ⟨_, rfl⟩
  rw [eG] at GR vg
  simp only [eG] at GG RD LC LR CO
  have va' := Nat.lt_of_le_of_lt (Nat.div_le_self (val xs) G) va
  have vb' := Nat.lt_of_le_of_lt (Nat.div_le_self (val ys) G) vb
  have vl := mul_lt_powW va' vb
  simp only [val_words] at PA PB
  generalize eL : val xs / G * val ys = L at LC LR vl
  have HGR := Lib.hid GR
  have HGG := Lib.hid GG
  have HRD := Lib.hid RD
  have HLC := Lib.hid LC
  have HLR := Lib.hid LR
  have HCO := Lib.hid CO
  have HPA := Lib.hid PA
  have HPB := Lib.hid PB
  have HVG := Lib.hid vg
  have HVA := Lib.hid va'
  have HVB := Lib.hid vb'
  have HVL := Lib.hid vl
  clear GR GG RD LC LR CO PA PB vg va' vb' va vb vl eL eG
  go_enter Try.func3, Try.ntmps3
  go_wp2_with fail
  refine HGR.out.mono ?_
  rintro e w1 ⟨A1, n1, c1, rfl, t1, b1⟩
  have l1 : n1 ≤ 8 := t1.small HVG.out
  go_wp2_with fail
  refine (HRD.out _ b1).mono ?_
  rintro e w2 ⟨A2, n2, c2, A3, n3, c3, rfl, t2, t3, b2⟩
  have hb2 := b1.trans (b2.mono b1.size)
  have l2 : n2 ≤ 8 := t2.small HVA.out
  have l3 : n3 ≤ 8 := t3.small HVB.out
  have t12 := t1.below b2
  clear t1 b1 b2 HGR HRD
  go_wp2_with fail
  refine (HGG.out _ hb2).mono ?_
  rintro e w4 ⟨A4, n4, c4, rfl, t4, b4⟩
  have hb4 := hb2.trans (b4.mono hb2.size)
  have l4 : n4 ≤ 8 := t4.small HVG.out
  have t14 := t12.below b4
  have t24 := t2.below b4
  have t34 := t3.below b4
  have S5 := plain_words t4 t14 (by omega) (by omega)
  rw [decide_eq_true rfl] at S5
  have H5 := Lib.hid S5
  clear S5 t12 t2 t3 t4 hb2 b4 HGG
  go_wp2_with fail
  refine H5.out.mono ?_
  rintro e w5 ⟨rfl, k5, rfl⟩
  have hb5 : Below w.heap.size w (w4.drewN k5) := Below.drewN' hb4 k5
  have t15 : Sl (w4.drewN k5) A1 n1 c1 (words G) := t14
  have t25 : Sl (w4.drewN k5) A2 n2 c2 (words (val xs / G)) := t24
  have t35 : Sl (w4.drewN k5) A3 n3 c3 (words (val ys / G)) := t34
  clear t14 t24 t34 hb4 H5
  generalize w4.drewN k5 = w5 at hb5 t15 t25 t35 ⊢
  go_wp2_with fail
  refine (HLC.out _ hb5).mono ?_
  rintro e w6 ⟨A6, n6, c6, rfl, t6, b6⟩
  have hb6 := hb5.trans (b6.mono hb5.size)
  have l6 : n6 ≤ 16 := t6.small HVL.out
  have t16 := t15.below b6
  have t26 := t25.below b6
  have t36 := t35.below b6
  clear t15 t25 t35 hb5 b6 HLC
  go_wp2_with fail
  refine (HLR.out _ hb6).mono ?_
  rintro e w7 ⟨A7, n7, c7, rfl, t7, b7⟩
  have hb7 := hb6.trans (b7.mono hb6.size)
  have l7 : n7 ≤ 16 := t7.small HVL.out
  have t17 := t16.below b7
  have t27 := t26.below b7
  have t37 := t36.below b7
  have S8 := plain_words (t6.below b7) t7 (by omega) (by omega)
  rw [decide_eq_true rfl] at S8
  have H8 := Lib.hid S8
  clear S8 t16 t26 t36 t6 t7 hb6 b7 HLR
  go_wp2_with fail
  refine H8.out.mono ?_
  rintro e w8 ⟨rfl, k8, rfl⟩
  have hb8 : Below w.heap.size w (w7.drewN k8) := Below.drewN' hb7 k8
  have t18 : Sl (w7.drewN k8) A1 n1 c1 (words G) := t17
  have t28 : Sl (w7.drewN k8) A2 n2 c2 (words (val xs / G)) := t27
  have t38 : Sl (w7.drewN k8) A3 n3 c3 (words (val ys / G)) := t37
  clear t17 t27 t37 hb7 H8
  generalize w7.drewN k8 = w8 at hb8 t18 t28 t38 ⊢
  go_wp2_with fail
  refine (HPA.out _ hb8 _ _ _ _ t18 l1).mono ?_
  rintro e w9 ⟨A9, n9, c9, rfl, t9, b9⟩
  have hb9 := hb8.trans (b9.mono hb8.size)
  have l9 : n9 ≤ 8 := t9.small HVA.out
  have t19 := t18.below b9
  have t39 := t38.below b9
  have S10 := plain_words (t28.below b9) t9 (by omega) (by omega)
  rw [decide_eq_true rfl] at S10
  have H10 := Lib.hid S10
  clear S10 t18 t28 t38 t9 hb8 b9 HPA
  go_wp2_with fail
  refine H10.out.mono ?_
  rintro e w10 ⟨rfl, k10, rfl⟩
  have hb10 : Below w.heap.size w (w9.drewN k10) := Below.drewN' hb9 k10
  have t110 : Sl (w9.drewN k10) A1 n1 c1 (words G) := t19
  have t310 : Sl (w9.drewN k10) A3 n3 c3 (words (val ys / G)) := t39
  clear t19 t39 hb9 H10
  generalize w9.drewN k10 = w10 at hb10 t110 t310 ⊢
  go_wp2_with fail
  refine (HPB.out _ hb10 _ _ _ _ t110 l1).mono ?_
  rintro e w11 ⟨A11, n11, c11, rfl, t11, b11⟩
  have hb11 := hb10.trans (b11.mono hb10.size)
  have l11 : n11 ≤ 8 := t11.small HVB.out
  have t111 := t110.below b11
  have S12 := plain_words (t310.below b11) t11 (by omega) (by omega)
  rw [decide_eq_true rfl] at S12
  have H12 := Lib.hid S12
  clear S12 t110 t310 t11 hb10 b11 HPB
  go_wp2_with fail
  refine H12.out.mono ?_
  rintro e w12 ⟨rfl, k12, rfl⟩
  have hb12 : Below w.heap.size w (w11.drewN k12) := Below.drewN' hb11 k12
  have t112 : Sl (w11.drewN k12) A1 n1 c1 (words G) := t111
  clear t111 hb11 H12
  generalize w11.drewN k12 = w12 at hb12 t112 ⊢
  go_wp2_with fail
  refine (HCO.out _ hb12).mono ?_
  rintro e w13 ⟨rfl, b13⟩
  have hb13 := hb12.trans (b13.mono hb12.size)
  have t113 := t112.below b13
  clear t112 hb12 b13 HCO HVG HVA HVB HVL
  rcases one_word t113 with ⟨hg, rfl, p, o, rfl, k⟩ | ⟨hg, hn⟩ | ⟨hg, rfl, p, o, x, rfl, k, hx⟩
  · simp only [decide_eq_true hg]
    clear t113 hg
    go_wp2_with fail
    refine (HS.out _).mono ?_
    rintro e w14 ⟨rfl, hb⟩
    go_wp2_with fail
    go_ret
    exact ⟨rfl, hb13.trans (hb.mono hb13.size)⟩
  · simp only [decide_eq_false hg]
    clear t113 hg
    go_wp2_with fail
    refine (HS.out _).mono ?_
    rintro e w14 ⟨rfl, hb⟩
    go_wp2_with fail
    go_ret
    exact ⟨rfl, hb13.trans (hb.mono hb13.size)⟩
  · simp only [decide_eq_false hg]
    clear t113 hg
    go_wp2_with fail
    refine (HS.out _).mono ?_
    rintro e w14 ⟨rfl, hb⟩
    go_wp2_with fail
    go_ret
    exact ⟨rfl, hb13.trans (hb.mono hb13.size)⟩

end Go.Proofs.Ytolibnnmojinkaa
