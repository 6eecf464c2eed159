/-
  The walks of the laws of layer 4: each returns true for any numbers. Conditions: the slices read as lists of words; the integers fit their kind.
-/
import Derived.Test.YtbaggejmnficgaaRefRoot
namespace Go.Proofs.Ytbaggejmnficgaa
open Go.RowKit
set_option linter.unusedVariables false
set_option linter.unusedSimpArgs false

theorem quot_ex : words (val [0, 0, 1] / val [1, 1]) = [18446744073709551615] ∧ words (val [0, 0, 1] % val [1, 1]) = [1] := by
  have e1 : val [0, 0, 1] / val [1, 1] = val [18446744073709551615] := by decide
  have e2 : val [0, 0, 1] % val [1, 1] = val [1] := by decide
  rw [e1, e2, words_val (by intro x hx; simp at hx; subst hx; unfold W; omega), words_val (by intro x hx; simp at hx; subst hx; unfold W; omega)]
  decide
theorem words_nine : words (rt (val [99])) = [9] := by
  have e : val [99] = 99 := by decide
  rw [e, rt_unique (r := 9) (by omega) (by omega)]
  have e2 : (9 : Nat) = val [9] := by decide
  rw [e2, words_val (by intro x hx; simp at hx; subst hx; unfold W; omega)]
  decide

/-- a call that returns two lists and a bool -/
def Ret2 (xs ys : List Int) (ok : Bool) (w : World) (e : Ending) (w' : World) : Prop := ∃ A n c A' n' c', e = .returned (.tuple #[.slice A n c, .slice A' n' c', .bool ok]) ∧ Sl w' A n c xs ∧ Sl w' A' n' c' ys ∧ Below w.heap.size w w'

set_option maxHeartbeats 1000000 in
theorem same04 (w : World) : Calls Try.prog 22 #[] w fun e w' => e = .returned (.bool true) ∧ Below w.heap.size w w' := by
  have r1 := Row.lit w 23 [0, 0, 1]
  have s1 := r1.sl (c := 3) (by intro x hx; simp at hx; rcases hx with rfl | rfl <;> (unfold U; omega)) (by simp)
  have r2 := Row.lit (w.alloc (.cells (([0, 0, 1] : List Int).map (Value.int .u64)).toArray 23)) 23 [1, 1]
  have s2 := r2.sl (c := 2) (by intro x hx; simp at hx; subst hx; unfold U; omega) (by simp)
  rw [show (w.alloc (.cells (([0, 0, 1] : List Int).map (Value.int .u64)).toArray 23)).heap.size = w.heap.size + 1 from by simp] at s2
  have s1' := s1.below (below_alloc _ (.cells (([1, 1] : List Int).map (Value.int .u64)).toArray 23))
  have hb0 : Below w.heap.size w ((w.alloc (.cells (([0, 0, 1] : List Int).map (Value.int .u64)).toArray 23)).alloc (.cells (([1, 1] : List Int).map (Value.int .u64)).toArray 23)) := (below_alloc w _).alloc (by simp) _
  have C := (quot_div s1' s2 (by simp) (by simp) (by decide)).mono (fun e w' ⟨A, n, c, A', n', c', he, h1, h2, h3⟩ => (⟨A, n, c, A', n', c', he, quot_ex.1 ▸ h1, quot_ex.2 ▸ h2, h3⟩ : Ret2 [18446744073709551615] [1] true _ e w'))
  simp only [List.map_cons, List.map_nil, List.length_cons, List.length_nil] at C hb0
  have HC := Lib.hid C
  have HB0 := Lib.hid hb0
  clear C s1 s2 s1' hb0 r1 r2
  go_enter Try.func22, Try.ntmps22
  go_wp2_with fail
  refine HC.out.mono ?_
  rintro e w1 ⟨A1, n1, c1, A2, n2, c2, rfl, s1, s2, b1⟩
  have hb1 := HB0.out.trans (b1.mono HB0.out.size)
  obtain rfl : n1 = 1 := s1.len
  obtain rfl : n2 = 1 := s2.len
  have R := quot_root (sl_lit w1 99 (by unfold U; omega)) (by omega)
  rw [words_nine] at R
  have HR := Lib.hid R
  have b2 := below_alloc w1 (.cells #[.int .u64 99] 23)
  have hb2 := hb1.trans (b2.mono hb1.size)
  have s1' := s1.below b2
  have s2' := s2.below b2
  clear R s1 s2 b1 hb1 HC HB0 b2
  go_wp2_with fail
  refine HR.out.mono ?_
  rintro e w3 ⟨A3, n3, c3, rfl, s3, b3⟩
  obtain rfl : n3 = 1 := s3.len
  have hb3 := hb2.trans (b3.mono hb2.size)
  have s1 := s1'.below b3
  have s2 := s2'.below b3
  obtain ⟨p1, o1, rfl, _, h1⟩ := s1.at_ (k := 0) (by omega)
  obtain ⟨p2, o2, rfl, _, h2⟩ := s2.at_ (k := 0) (by omega)
  obtain ⟨p3, o3, rfl, _, h3⟩ := s3.at_ (k := 0) (by omega)
  have k1 : w3.cell? ⟨p1, o1, none⟩ = some (.int .u64 18446744073709551615) := h1 0 (by omega)
  have k2 : w3.cell? ⟨p2, o2, none⟩ = some (.int .u64 1) := h2 0 (by omega)
  have k3 : w3.cell? ⟨p3, o3, none⟩ = some (.int .u64 9) := h3 0 (by omega)
  clear h1 h2 h3 s1 s2 s3 s1' s2' b3 hb2 HR
  go_wp2_with fail
  go_ret
  exact ⟨rfl, hb3⟩

set_option maxHeartbeats 2000000 in
theorem quotBack_walk (a0 : Option Addr) (len0 cap0 : Nat) (z0 : List Int) (a1 : Option Addr) (len1 cap1 : Nat) (z1 : List Int) (a2 : Option Addr) (len2 cap2 : Nat) (z2 : List Int) (w : World) (w0 : IsRow .u64 w a0 len0 cap0 z0) (w1 : IsRow .u64 w a1 len1 cap1 z1) (w2 : IsRow .u64 w a2 len2 cap2 z2) :
    Calls Try.prog 9 #[.slice a0 len0 cap0, .slice a1 len1 cap1, .slice a2 len2 cap2] w fun e w' => e = .returned (.bool true) ∧ Below w.heap.size w w' := by
  obtain ⟨s0, _⟩ := w0.sl
  obtain ⟨s1, _⟩ := w1.sl
  obtain ⟨s2, _⟩ := w2.sl
  clear w0 w1 w2
  have HS := Lib.hid (fun w => same04 w)
  by_cases h0 : 24 < len0
  · go_enter Try.func9, Try.ntmps9
    go_wp2_with fail
    refine (HS.out _).mono ?_
    rintro e w' ⟨rfl, hb⟩
    go_wp2_with fail
    go_ret
    exact ⟨rfl, hb⟩
  by_cases h1 : 24 < len1
  · go_enter Try.func9, Try.ntmps9
    go_wp2_with fail
    refine (HS.out _).mono ?_
    rintro e w' ⟨rfl, hb⟩
    go_wp2_with fail
    go_ret
    exact ⟨rfl, hb⟩
  by_cases h2 : 24 < len2
  · go_enter Try.func9, Try.ntmps9
    go_wp2_with fail
    refine (HS.out _).mono ?_
    rintro e w' ⟨rfl, hb⟩
    go_wp2_with fail
    go_ret
    exact ⟨rfl, hb⟩
  generalize z0.take len0 = xs at s0
  generalize z1.take len1 = ys at s1
  generalize z2.take len2 = zs at s2
  have CM := nat_cmp s2 s1 (by omega) (by omega)
  by_cases hge : ¬ val zs < val ys
  · have hcm : 0 ≤ cmpN (val zs) (val ys) := by have := cmpN_neg (val zs) (val ys); omega
    generalize cmpN (val zs) (val ys) = cm at CM hcm
    have HC := Lib.hid CM
    clear CM hge
    go_enter Try.func9, Try.ntmps9
    go_wp2_with fail
    refine HC.out.mono ?_
    rintro e w' ⟨rfl, rfl⟩
    go_wp2_with fail
    refine (HS.out _).mono ?_
    rintro e w' ⟨rfl, hb⟩
    go_wp2_with fail
    go_ret
    exact ⟨rfl, hb⟩
  have hlt : val zs < val ys := by omega
  rw [cmpN_lt hlt] at CM
  have va : val xs < W ^ 24 := val_lt_pow s0.us (by have := s0.len; omega)
  have vb : val ys < W ^ 24 := val_lt_pow s1.us (by have := s1.len; omega)
  have vc : val zs < W ^ 24 := val_lt_pow s2.us (by have := s2.len; omega)
  generalize ea : val xs = a at va
  generalize eb : val ys = b at vb hlt CM
  generalize ec : val zs = c at vc hlt CM
  have HC := Lib.hid CM
  have EA := Lib.hid ea
  have EB := Lib.hid eb
  have EC := Lib.hid ec
  have VA := Lib.hid va
  have VB := Lib.hid vb
  have VC := Lib.hid vc
  have HLT := Lib.hid hlt
  clear CM ea eb ec va vb vc hlt hge
  go_enter Try.func9, Try.ntmps9
  go_wp2_with fail
  refine HC.out.mono ?_
  rintro e w' ⟨rfl, rfl⟩
  go_wp2_with fail
  refine (prod_mul s0 s1 (by omega)).mono ?_
  rintro e w1 ⟨A1, n1, c1, rfl, t1, b1⟩
  rw [EA.out, EB.out] at t1
  have l1 : n1 ≤ 48 := t1.small (mul_lt_powW VA.out VB.out)
  have S1 := nat_add t1 (s2.below b1) (by omega) (by omega)
  rw [val_words, EC.out] at S1
  have H1 := Lib.hid S1
  clear S1 t1 HC
  go_wp2_with fail
  refine H1.out.mono ?_
  rintro e w2 ⟨A2, n2, c2, rfl, t2, b2⟩
  have hb2 := b1.trans (b2.mono b1.size)
  have l2 : n2 ≤ 49 := t2.small (add_lt_pow (mul_lt_powW VA.out VB.out) (lt_pow_mono VC.out (by omega)))
  have S2 := quot_div t2 (s1.below hb2) (by omega) (by omega) (by rw [EB.out]; have := HLT.out; omega)
  rw [val_words, EB.out, Nat.mul_comm a b, Nat.mul_add_div (by have := HLT.out; omega), Nat.mul_add_mod, Nat.div_eq_of_lt HLT.out, Nat.mod_eq_of_lt HLT.out, Nat.add_zero] at S2
  have H2 := Lib.hid S2
  clear S2 t2 H1 b1 b2
  go_wp2_with fail
  refine H2.out.mono ?_
  rintro e w3 ⟨A3, n3, c3, A4, n4, c4, rfl, t3, t4, b3⟩
  have hb3 := hb2.trans (b3.mono hb2.size)
  have l3 : n3 ≤ 24 := t3.small VA.out
  have l4 : n4 ≤ 24 := t4.small VC.out
  have S3 := nat_trim (s0.below hb3) (by omega)
  rw [EA.out] at S3
  have H3 := Lib.hid S3
  clear S3 hb2 b3 H2
  go_wp2_with fail
  refine H3.out.mono ?_
  rintro e w5 ⟨A5, n5, c5, rfl, t5, b5⟩
  have hb5 := hb3.trans (b5.mono hb3.size)
  have l5 : n5 ≤ 24 := t5.small VA.out
  have t4' := t4.below b5
  have S5 := plain_words (t3.below b5) t5 (by omega) (by omega)
  rw [decide_eq_true rfl] at S5
  have H5 := Lib.hid S5
  clear S5 hb3 b5 H3 t3 t4 t5
  go_wp2_with fail
  refine H5.out.mono ?_
  rintro e w6 ⟨rfl, k6, rfl⟩
  have hb6 : Below w.heap.size w (w5.drewN k6) := Below.drewN' hb5 k6
  have t6 : Sl (w5.drewN k6) A4 n4 c4 (words c) := t4'
  generalize w5.drewN k6 = w6 at hb6 t6 ⊢
  have S6 := nat_trim (s2.below hb6) (by omega)
  rw [EC.out] at S6
  have H6 := Lib.hid S6
  clear S6 hb5 H5 t4'
  go_wp2_with fail
  refine H6.out.mono ?_
  rintro e w7 ⟨A7, n7, c7, rfl, t7, b7⟩
  have hb7 := hb6.trans (b7.mono hb6.size)
  have l7 : n7 ≤ 24 := t7.small VC.out
  have S7 := plain_words (t6.below b7) t7 (by omega) (by omega)
  rw [decide_eq_true rfl] at S7
  have H7 := Lib.hid S7
  clear S7 hb6 b7 H6 t6 t7
  go_wp2_with fail
  refine H7.out.mono ?_
  rintro e w8 ⟨rfl, k8, rfl⟩
  have hb8 : Below w.heap.size w (w7.drewN k8) := Below.drewN' hb7 k8
  generalize w7.drewN k8 = w8 at hb8 ⊢
  clear hb7 H7
  go_wp2_with fail
  refine (HS.out _).mono ?_
  rintro e w9 ⟨rfl, hb⟩
  go_wp2_with fail
  go_ret
  exact ⟨rfl, hb8.trans (hb.mono hb8.size)⟩

set_option maxRecDepth 100000 in
set_option maxHeartbeats 4000000 in
theorem quotTells_walk (a0 : Option Addr) (len0 cap0 : Nat) (z0 : List Int) (a1 : Option Addr) (len1 cap1 : Nat) (z1 : List Int) (d : Int) (w : World) (w0 : IsRow .u64 w a0 len0 cap0 z0) (w1 : IsRow .u64 w a1 len1 cap1 z1) (w2 : (Lit.int .u64 d).wf = true) :
    Calls Try.prog 8 #[.slice a0 len0 cap0, .slice a1 len1 cap1, .int .u64 d] w fun e w' => e = .returned (.bool true) ∧ Below w.heap.size w w' := by
  obtain ⟨s0, _⟩ := w0.sl
  obtain ⟨s1, _⟩ := w1.sl
  have ud := U_of_wf w2
  clear w0 w1 w2
  have HS := Lib.hid (fun w => same04 w)
  by_cases h0 : 24 < len0
  · go_enter Try.func8, Try.ntmps8
    go_wp2_with fail
    refine (HS.out _).mono ?_
    rintro e w' ⟨rfl, hb⟩
    go_wp2_with fail
    go_ret
    exact ⟨rfl, hb⟩
  by_cases h1 : 24 < len1
  · go_enter Try.func8, Try.ntmps8
    go_wp2_with fail
    refine (HS.out _).mono ?_
    rintro e w' ⟨rfl, hb⟩
    go_wp2_with fail
    go_ret
    exact ⟨rfl, hb⟩
  generalize z0.take len0 = xs at s0
  generalize z1.take len1 = ys at s1
  have va : val xs < W ^ 24 := val_lt_pow s0.us (by have := s0.len; omega)
  have vb : val ys < W ^ 24 := val_lt_pow s1.us (by have := s1.len; omega)
  have ZZ := fun w1 (hb : Below w.heap.size w w1) => ref_size (s1.below hb) (by omega)
  have hzi := valB_zero_iff W_pos (Dg_U s1.us)
  have hpb : sz ys ≤ 24 := Nat.le_trans (sz_le ys) (by have := s1.len; omega)
  have qW := fun q => Nat.lt_of_le_of_lt (Nat.div_le_self (val xs) q) va
  have WD := fun w1 (hb : Below w.heap.size w w1) (hd0 : 0 < d) => quot_word (s0.below hb) (by omega) d ud hd0
  have RW := fun w1 (hb : Below w.heap.size w w1) (hd0 : 0 < d) => ref_div ((s0.below hb).below (below_alloc w1 (.cells #[.int .u64 d] 23))) (sl_lit w1 d ud) (by omega) (by omega) (by rw [val_one]; omega)
  have DV := fun (h0 : 0 < val ys) => quot_div s0 s1 (by omega) (by omega) h0
  have DZ := fun (h0 : val ys = 0) => quot_div_zero (A := a0) (n := len0) (c := cap0) s1 (by omega) h0
  have RD := fun w1 (hb : Below w.heap.size w w1) (h0 : 0 < val ys) => ref_div (s0.below hb) (s1.below hb) (by omega) (by omega) h0
  have rW := fun (h0 : 0 < val ys) => Nat.lt_trans (Nat.mod_lt (val xs) h0) vb
  have rM := fun (hd0 : 0 < d) => Nat.mod_lt (val xs) (show 0 < d.toNat by omega)
  have hmU : 0 < d → U ((val xs % d.toNat : Nat) : Int) := fun hd0 => by have := rM hd0; have := ud.2; unfold U; omega
  have rMW : 0 < d → val xs % d.toNat < W ^ 24 := fun hd0 => lt_pow_mono (k := 1) (by have := rM hd0; have := ud.2; rw [Nat.pow_one]; unfold W; omega) (by omega)
  have hzy : val ys = 0 ↔ sz ys = 0 := hzi
  have qWb := qW (val ys)
  have qWd := qW d.toNat
  rw [val_one] at RW
  generalize val xs / val ys = q at *
  generalize val xs % val ys = r at *
  generalize val xs / d.toNat = qd at *
  obtain ⟨m0, em⟩ : ∃ m0, val xs % d.toNat = m0 := ⟨_, rfl⟩
  rw [em] at WD RW hmU rMW
  obtain ⟨m, em2⟩ : ∃ m : Int, (m0 : Int) = m := ⟨_, rfl⟩
  have hmt : m.toNat = m0 := by omega
  rw [em2] at WD hmU
  have TR := fun (hd0 : 0 < d) w1 => ref_trim (sl_lit w1 m (hmU hd0)) (by omega)
  rw [val_one, hmt] at TR
  obtain ⟨p, hp⟩ : ∃ p, sz ys = p := ⟨_, rfl⟩
  rw [hp] at ZZ hzy hpb
  have HZ := Lib.hid ZZ
  have HQ := Lib.hid qWb
  have HQD := Lib.hid qWd
  clear ZZ qW qWb qWd va vb em em2 hmt hp rM hzi
  by_cases hb0 : val ys = 0
  · obtain rfl : p = 0 := hzy.1 hb0
    have HD := Lib.hid (DZ hb0)
    clear DV DZ RD rW hzy hb0
    by_cases hd0 : d = 0
    · subst hd0
      clear WD RW TR rMW hmU
      go_enter Try.func8, Try.ntmps8
      go_wp2_with fail
      refine HD.out.mono ?_
      rintro e w1 ⟨A1, n1, c1, A2, n2, c2, rfl, s1, s2, b1⟩
      obtain rfl : n1 = 0 := s1.len
      obtain rfl : n2 = 0 := s2.len
      go_wp2_with fail
      refine (quot_word_zero _ _ _ _).mono ?_
      rintro e w' ⟨rfl, rfl⟩
      have hb2 : Below w.heap.size w w1 := b1
      go_wp2_with fail
      refine (HZ.out _ hb2).mono ?_
      rintro e w' ⟨rfl, rfl⟩
      go_wp2_with fail
      refine (HS.out _).mono ?_
      rintro e w' ⟨rfl, hb⟩
      go_wp2_with fail
      go_ret
      exact ⟨rfl, hb2.trans (hb.mono hb2.size)⟩
    · have hdp : 0 < d := by have := ud.1; omega
      have HW := Lib.hid (fun w1 hb => WD w1 hb hdp)
      have HRW := Lib.hid (fun w1 hb => RW w1 hb hdp)
      have HTR := Lib.hid (TR hdp)
      have HRM := Lib.hid (rMW hdp)
      clear WD RW TR rMW hmU
      go_enter Try.func8, Try.ntmps8
      go_wp2_with fail
      refine HD.out.mono ?_
      rintro e w1 ⟨A1, n1, c1, A2, n2, c2, rfl, s1, s2, b1⟩
      obtain rfl : n1 = 0 := s1.len
      obtain rfl : n2 = 0 := s2.len
      go_wp2_with fail
      refine (HW.out _ b1).mono ?_
      rintro e w2 ⟨A3, n3, c3, rfl, s3, b2⟩
      have l3 : n3 ≤ 24 := s3.small HQD.out
      have hb2 := b1.trans (b2.mono b1.size)
      go_wp2_with fail
      refine (HZ.out _ hb2).mono ?_
      rintro e w' ⟨rfl, rfl⟩
      go_wp2_with fail
      refine (HRW.out _ hb2).mono ?_
      rintro e w7 ⟨A7, n7, c7, A8, n8, c8, rfl, s7, s8, b7⟩
      have hb7a : Below w.heap.size w (w2.alloc (.cells #[.int .u64 d] 23)) := hb2.alloc hb2.size _
      have hb7 := hb7a.trans (b7.mono hb7a.size)
      have t7 := (s3.below (below_alloc w2 (.cells #[.int .u64 d] 23))).below b7
      have l7 : n7 ≤ 24 := s7.small HQD.out
      have l8 : n8 ≤ 24 := s8.small HRM.out
      have W3 := plain_words t7 s7 (by omega) (by omega)
      rw [decide_eq_true rfl] at W3
      have HW3 := Lib.hid W3
      clear W3 hb7a b7
      go_wp2_with fail
      refine HW3.out.mono ?_
      rintro e w8 ⟨rfl, k8, rfl⟩
      have hb8 : Below w.heap.size w (w7.drewN k8) := Below.drewN' hb7 k8
      have t8 : Sl (w7.drewN k8) A8 n8 c8 _ := s8
      generalize w7.drewN k8 = w8 at hb8 t8 ⊢
      have T := HTR.out w8
      have HT := Lib.hid T
      clear T HW3 hb7 s8 s7
      go_wp2_with fail
      refine HT.out.mono ?_
      rintro e w9 ⟨A9, n9, c9, rfl, s9, b9⟩
      have hb9a : Below w.heap.size w (w8.alloc (.cells #[.int .u64 m] 23)) := hb8.alloc hb8.size _
      have hb9 := hb9a.trans (b9.mono hb9a.size)
      have t9 := (t8.below (below_alloc w8 (.cells #[.int .u64 m] 23))).below b9
      have l9 : n9 ≤ 24 := s9.small HRM.out
      have W4 := plain_words s9 t9 (by omega) (by omega)
      rw [decide_eq_true rfl] at W4
      have HW4 := Lib.hid W4
      clear W4 hb9a b9 HT
      go_wp2_with fail
      refine HW4.out.mono ?_
      rintro e w10 ⟨rfl, k10, rfl⟩
      have hb10 : Below w.heap.size w (w9.drewN k10) := Below.drewN' hb9 k10
      generalize w9.drewN k10 = w10 at hb10 ⊢
      clear HW4 hb9
      go_wp2_with fail
      refine (HS.out _).mono ?_
      rintro e w' ⟨rfl, hb⟩
      go_wp2_with fail
      go_ret
      exact ⟨rfl, hb10.trans (hb.mono hb10.size)⟩
  · have hbp : 0 < val ys := by omega
    have hpp : 0 < p := by
      rcases Nat.eq_zero_or_pos p with e | e
      · exact absurd (hzy.2 e) hb0
      · exact e
    have HD := Lib.hid (DV hbp)
    have HRD := Lib.hid (fun w1 hb => RD w1 hb hbp)
    have HR := Lib.hid (rW hbp)
    clear DV DZ RD rW hzy hb0 hbp
    by_cases hd0 : d = 0
    · subst hd0
      clear WD RW TR rMW hmU
      go_enter Try.func8, Try.ntmps8
      go_wp2_with fail
      refine HD.out.mono ?_
      rintro e w1 ⟨A1, n1, c1, A2, n2, c2, rfl, s1, s2, b1⟩
      have l1 : n1 ≤ 24 := s1.small HQ.out
      have l2 : n2 ≤ 24 := s2.small HR.out
      go_wp2_with fail
      refine (quot_word_zero _ _ _ _).mono ?_
      rintro e w' ⟨rfl, rfl⟩
      have hb2 : Below w.heap.size w w1 := b1
      go_wp2_with fail
      refine (HZ.out _ hb2).mono ?_
      rintro e w' ⟨rfl, rfl⟩
      go_wp2_with fail
      refine (HRD.out _ hb2).mono ?_
      rintro e w4 ⟨A5, n5, c5, A6, n6, c6, rfl, s5, s6, b4⟩
      have hb4 := hb2.trans (b4.mono hb2.size)
      have l5 : n5 ≤ 24 := s5.small HQ.out
      have l6 : n6 ≤ 24 := s6.small HR.out
      have W1 := plain_words (s1.below b4) s5 (by omega) (by omega)
      rw [decide_eq_true rfl] at W1
      have HW1 := Lib.hid W1
      have t2 := s2.below b4
      clear W1
      go_wp2_with fail
      refine HW1.out.mono ?_
      rintro e w5 ⟨rfl, k5, rfl⟩
      have hb5 : Below w.heap.size w (w4.drewN k5) := Below.drewN' hb4 k5
      have t2' : Sl (w4.drewN k5) A2 n2 c2 _ := t2
      have t6' : Sl (w4.drewN k5) A6 n6 c6 _ := s6
      generalize w4.drewN k5 = w5 at hb5 t2' t6'  ⊢
      have W2 := plain_words t2' t6' (by omega) (by omega)
      rw [decide_eq_true rfl] at W2
      have HW2 := Lib.hid W2
      clear W2 HW1 b4 hb4 s5 s6
      go_wp2_with fail
      refine HW2.out.mono ?_
      rintro e w6 ⟨rfl, k6, rfl⟩
      have hb6 : Below w.heap.size w (w5.drewN k6) := Below.drewN' hb5 k6
      generalize w5.drewN k6 = w6 at hb6  ⊢
      clear HW2 hb5
      go_wp2_with fail
      refine (HS.out _).mono ?_
      rintro e w' ⟨rfl, hb⟩
      go_wp2_with fail
      go_ret
      exact ⟨rfl, hb6.trans (hb.mono hb6.size)⟩
    · have hdp : 0 < d := by have := ud.1; omega
      have HW := Lib.hid (fun w1 hb => WD w1 hb hdp)
      have HRW := Lib.hid (fun w1 hb => RW w1 hb hdp)
      have HTR := Lib.hid (TR hdp)
      have HRM := Lib.hid (rMW hdp)
      clear WD RW TR rMW hmU
      go_enter Try.func8, Try.ntmps8
      go_wp2_with fail
      refine HD.out.mono ?_
      rintro e w1 ⟨A1, n1, c1, A2, n2, c2, rfl, s1, s2, b1⟩
      have l1 : n1 ≤ 24 := s1.small HQ.out
      have l2 : n2 ≤ 24 := s2.small HR.out
      go_wp2_with fail
      refine (HW.out _ b1).mono ?_
      rintro e w2 ⟨A3, n3, c3, rfl, s3, b2⟩
      have l3 : n3 ≤ 24 := s3.small HQD.out
      have hb2 := b1.trans (b2.mono b1.size)
      have s1 := s1.below b2
      have s2 := s2.below b2
      go_wp2_with fail
      refine (HZ.out _ hb2).mono ?_
      rintro e w' ⟨rfl, rfl⟩
      go_wp2_with fail
      refine (HRD.out _ hb2).mono ?_
      rintro e w4 ⟨A5, n5, c5, A6, n6, c6, rfl, s5, s6, b4⟩
      have hb4 := hb2.trans (b4.mono hb2.size)
      have l5 : n5 ≤ 24 := s5.small HQ.out
      have l6 : n6 ≤ 24 := s6.small HR.out
      have W1 := plain_words (s1.below b4) s5 (by omega) (by omega)
      rw [decide_eq_true rfl] at W1
      have HW1 := Lib.hid W1
      have t2 := s2.below b4
      have t3 := s3.below b4
      clear W1
      go_wp2_with fail
      refine HW1.out.mono ?_
      rintro e w5 ⟨rfl, k5, rfl⟩
      have hb5 : Below w.heap.size w (w4.drewN k5) := Below.drewN' hb4 k5
      have t2' : Sl (w4.drewN k5) A2 n2 c2 _ := t2
      have t6' : Sl (w4.drewN k5) A6 n6 c6 _ := s6
      have t3' : Sl (w4.drewN k5) A3 n3 c3 _ := t3
      generalize w4.drewN k5 = w5 at hb5 t2' t6' t3' ⊢
      have W2 := plain_words t2' t6' (by omega) (by omega)
      rw [decide_eq_true rfl] at W2
      have HW2 := Lib.hid W2
      clear W2 HW1 b4 hb4 s5 s6
      go_wp2_with fail
      refine HW2.out.mono ?_
      rintro e w6 ⟨rfl, k6, rfl⟩
      have hb6 : Below w.heap.size w (w5.drewN k6) := Below.drewN' hb5 k6
      have t3 : Sl (w5.drewN k6) A3 n3 c3 _ := t3'
      generalize w5.drewN k6 = w6 at hb6 t3 ⊢
      clear HW2 hb5
      go_wp2_with fail
      refine (HRW.out _ hb6).mono ?_
      rintro e w7 ⟨A7, n7, c7, A8, n8, c8, rfl, s7, s8, b7⟩
      have hb7a : Below w.heap.size w (w6.alloc (.cells #[.int .u64 d] 23)) := hb6.alloc hb6.size _
      have hb7 := hb7a.trans (b7.mono hb7a.size)
      have t7 := (t3.below (below_alloc w6 (.cells #[.int .u64 d] 23))).below b7
      have l7 : n7 ≤ 24 := s7.small HQD.out
      have l8 : n8 ≤ 24 := s8.small HRM.out
      have W3 := plain_words t7 s7 (by omega) (by omega)
      rw [decide_eq_true rfl] at W3
      have HW3 := Lib.hid W3
      clear W3 hb7a b7
      go_wp2_with fail
      refine HW3.out.mono ?_
      rintro e w8 ⟨rfl, k8, rfl⟩
      have hb8 : Below w.heap.size w (w7.drewN k8) := Below.drewN' hb7 k8
      have t8 : Sl (w7.drewN k8) A8 n8 c8 _ := s8
      generalize w7.drewN k8 = w8 at hb8 t8 ⊢
      have T := HTR.out w8
      have HT := Lib.hid T
      clear T HW3 hb7 s8 s7
      go_wp2_with fail
      refine HT.out.mono ?_
      rintro e w9 ⟨A9, n9, c9, rfl, s9, b9⟩
      have hb9a : Below w.heap.size w (w8.alloc (.cells #[.int .u64 m] 23)) := hb8.alloc hb8.size _
      have hb9 := hb9a.trans (b9.mono hb9a.size)
      have t9 := (t8.below (below_alloc w8 (.cells #[.int .u64 m] 23))).below b9
      have l9 : n9 ≤ 24 := s9.small HRM.out
      have W4 := plain_words s9 t9 (by omega) (by omega)
      rw [decide_eq_true rfl] at W4
      have HW4 := Lib.hid W4
      clear W4 hb9a b9 HT
      go_wp2_with fail
      refine HW4.out.mono ?_
      rintro e w10 ⟨rfl, k10, rfl⟩
      have hb10 : Below w.heap.size w (w9.drewN k10) := Below.drewN' hb9 k10
      generalize w9.drewN k10 = w10 at hb10 ⊢
      clear HW4 hb9
      go_wp2_with fail
      refine (HS.out _).mono ?_
      rintro e w' ⟨rfl, hb⟩
      go_wp2_with fail
      go_ret
      exact ⟨rfl, hb10.trans (hb.mono hb10.size)⟩

end Go.Proofs.Ytbaggejmnficgaa
