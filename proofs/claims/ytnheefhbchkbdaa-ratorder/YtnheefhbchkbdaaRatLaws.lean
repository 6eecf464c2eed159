/-
  Words that the laws of exact numbers use: what is known to be so; gradinelaw07.same and right.
-/
import Derived.Test.YtnheefhbchkbdaaRatMul
import Derived.Test.YtnheefhbchkbdaaRatCmp
import Derived.Test.YtnheefhbchkbdaaRatRight
namespace Go.Proofs.Ytnheefhbchkbdaa
open Go.RowKit
set_option linter.unusedVariables false
set_option linter.unusedSimpArgs false

theorem box0 (t : TypeId) (w : World) (vs : Array Value) : ∃ V, w.alloc (.cells vs t) = V ∧ Box t V w.heap.size vs ∧ Below w.heap.size w V := ⟨_, rfl, Box.new w t vs, below_alloc _ _⟩
theorem rat_sameT {w : World} {s t : Bool} {A A' B B' : Option Addr} {n n' c c' m m' d d' N : Nat} {X Y : Rat} (h : Q w s A n c A' n' c' X) (k : Q w t B m d B' m' d' Y) (hX : Sz X N) (hY : Sz Y N) (hN : N ≤ 1000) (e : X = Y) : Calls Try.prog 18 #[.agg #[.bool s, .slice A n c, .slice A' n' c'], .agg #[.bool t, .slice B m d, .slice B' m' d']] w (RetBl true w) := by
  have := rat_sameQ h k hX hY hN
  rw [decide_eq_true e] at this
  exact this
theorem ref_sameT {w : World} {s t : Bool} {A A' B B' : Option Addr} {n n' c c' m m' d d' N : Nat} {X Y : Rat} (h : Q w s A n c A' n' c' X) (k : Q w t B m d B' m' d' Y) (hX : Sz X N) (hY : Sz Y N) (hN : N ≤ 400) (e : X = Y) : Calls Try.prog 12 #[.agg #[.bool s, .slice A n c, .slice A' n' c'], .agg #[.bool t, .slice B m d, .slice B' m' d']] w (RetBl true w) := by
  have := ref_sameQ h k hX hY (by omega)
  rw [decide_eq_true e] at this
  exact this
theorem rat_sameE {w : World} {s t : Bool} {A A' B B' : Option Addr} {n n' c c' m m' d d' N : Nat} {X Y : Rat} (h : Q w s A n c A' n' c' X) (k : Q w t B m d B' m' d' Y) (hX : Sz X N) (hY : Sz Y N) (hN : N ≤ 1000) (b : Bool) (e : decide (X = Y) = b) : Calls Try.prog 18 #[.agg #[.bool s, .slice A n c, .slice A' n' c'], .agg #[.bool t, .slice B m d, .slice B' m' d']] w (RetBl b w) := by
  have := rat_sameQ h k hX hY hN
  rw [e] at this
  exact this
theorem rat_cmpE {w : World} {s t : Bool} {A A' B B' : Option Addr} {n n' c c' m m' d d' N : Nat} {X Y : Rat} (h : Q w s A n c A' n' c' X) (k : Q w t B m d B' m' d' Y) (hX : Sz X N) (hY : Sz Y N) (hN : N ≤ 1000) (r : Int) (e : cmpQ X Y = r) : Calls Try.prog 32 #[.agg #[.bool s, .slice A n c, .slice A' n' c'], .agg #[.bool t, .slice B m d, .slice B' m' d']] w (RetI r w) := by
  rw [← e]; exact rat_cmp h k hX hY hN
theorem ref_cmpE {w : World} {s t : Bool} {A A' B B' : Option Addr} {n n' c c' m m' d d' N : Nat} {X Y : Rat} (h : Q w s A n c A' n' c' X) (k : Q w t B m d B' m' d' Y) (hX : Sz X N) (hY : Sz Y N) (hN : N ≤ 400) (r : Int) (e : cmpQ X Y = r) : Calls Try.prog 33 #[.agg #[.bool s, .slice A n c, .slice A' n' c'], .agg #[.bool t, .slice B m d, .slice B' m' d']] w (RetI r w) := by
  rw [← e]; exact ref_cmpQ h k hX hY hN
theorem rat_signE {w : World} {s : Bool} {A A' : Option Addr} {n n' c c' N : Nat} {X : Rat} (h : Q w s A n c A' n' c' X) (hX : Sz X N) (hN : N ≤ 1000) (r : Int) (e : sgnQ X = r) : Calls Try.prog 34 #[.agg #[.bool s, .slice A n c, .slice A' n' c']] w (RetI r w) := by
  rw [← e]; exact rat_sign h (by have := h.2.1.small hX.1; omega)
theorem ref_signE {w : World} {s : Bool} {A A' : Option Addr} {n n' c c' N : Nat} {X : Rat} (h : Q w s A n c A' n' c' X) (hX : Sz X N) (r : Int) (e : sgnQ X = r) : Calls Try.prog 35 #[.agg #[.bool s, .slice A n c, .slice A' n' c']] w (RetI r w) := by
  rw [← e]; exact ref_sign h
theorem rat_negE {w : World} {s : Bool} {A A' : Option Addr} {n n' c c' N : Nat} {X : Rat} (h : Q w s A n c A' n' c' X) (hX : Sz X N) (hN : N ≤ 1000) : Calls Try.prog 30 #[.agg #[.bool s, .slice A n c, .slice A' n' c']] w (RetQ (-X) w) :=
  rat_neg h (by have := h.2.1.small hX.1; omega) (by have := h.2.2.small hX.2; omega)
theorem ref_zeroE {w : World} {s : Bool} {A A' : Option Addr} {n n' c c' N : Nat} {X : Rat} (h : Q w s A n c A' n' c' X) (hX : Sz X N) (b : Bool) (e : decide (X = 0) = b) : Calls Try.prog 22 #[.agg #[.bool s, .slice A n c, .slice A' n' c']] w (RetBl b w) := by
  rw [← e]; exact ref_zero h
theorem rat_rightT {w : World} {s : Bool} {A A' : Option Addr} {n n' c c' N : Nat} {X : Rat} (h : Q w s A n c A' n' c' X) (hX : Sz X N) (hN : N ≤ 1000) : Calls Try.prog 13 #[.agg #[.bool s, .slice A n c, .slice A' n' c']] w (RetBl true w) := by
  have := rat_right (s := s) (N := N) h.2.1 h.2.2 (h.2.1.small hX.1) (h.2.2.small hX.2) hN
  rw [Q_right h] at this
  exact this
theorem ref_sameZ (w : World) : Calls Try.prog 12 #[.agg #[.bool false, .slice none 0 0, .slice none 0 0], .agg #[.bool false, .slice none 0 0, .slice none 0 0]] w (RetBl true w) :=
  ref_same (s := false) (t := false) (Sl.nil w none 0) (Sl.nil w none 0) (Sl.nil w none 0) (Sl.nil w none 0) (by omega) (by omega) (by omega) (by omega)
theorem sl_word {w : World} {A : Option Addr} {n c v : Nat} (h : Sl w A n c (words v)) (h0 : 0 < v) (h1 : v < W) : n = 1 ∧ ∃ p o, A = some ⟨p, o, none⟩ ∧ p < w.heap.size ∧ w.cell? ⟨p, o, none⟩ = some (.int .u64 (v : Int)) := by
  rw [words_small v h0 h1] at h
  have hl : n = 1 := h.len
  subst hl
  obtain ⟨b, off, e, hb, hc⟩ := h.at_ (k := 0) (by omega)
  exact ⟨rfl, b, off, e, hb, hc 0 (by omega)⟩
theorem sz_of (z : Int) (h1 : -9223372036854775808 ≤ z) (h2 : z ≤ 9223372036854775807) : Sz (z : Rat) 1 := by
  refine ⟨?_, ?_⟩
  · rw [Nat.pow_one, Rat.num_intCast]; unfold W; omega
  · rw [Nat.pow_one, Rat.den_intCast]; unfold W; omega
theorem lits (w : World) (x y : Int) (hx : U x) (hy : U y) : ∃ V, (w.alloc (.cells #[.int .u64 x] 44)).alloc (.cells #[.int .u64 y] 44) = V ∧ Sl V (some ⟨w.heap.size, 0, none⟩) 1 1 [x] ∧ Sl V (some ⟨w.heap.size + 1, 0, none⟩) 1 1 [y] ∧ Below w.heap.size w V := by
  refine ⟨_, rfl, ?_, ?_, ((below_alloc _ _).alloc (by simp) _)⟩
  · exact (sl_lit w x hx).below (below_alloc _ (.cells #[.int .u64 y] 44))
  · have := sl_lit (w.alloc (.cells #[.int .u64 x] 44)) y hy
    rw [show (w.alloc (.cells #[.int .u64 x] 44)).heap.size = w.heap.size + 1 from by simp] at this
    exact this

set_option maxRecDepth 100000 in
set_option maxHeartbeats 8000000 in
theorem same07 (w : World) : Calls Try.prog 9 #[] w (RetBl true w) := by
  obtain ⟨V, hV, t1, t2, hb0⟩ := lits w 1 6 U_1 (by unfold U; omega)
  have MK1 := rat_make false t1 t2 (by omega) (by omega) (by rw [val_one]; decide)
  rw [val_one, val_one] at MK1
  have MK2 := fun (w1 V : World) (A A' : Option Addr) (n n' c c' : Nat) (x : Sl V A 1 1 [2]) (y : Sl V A' 1 1 [20]) => rat_make false x y (by omega) (by omega) (by rw [val_one]; decide)
  have e1 : rq false (Int.toNat 1) (Int.toNat 6) + rq false (Int.toNat 2) (Int.toNat 20) = rq false 4 15 := by decide +kernel
  have z1 : Sz (rq false (Int.toNat 1) (Int.toNat 6)) 1 := rq_sz (by decide) (by rw [Nat.pow_one]; decide) (by rw [Nat.pow_one]; decide)
  have z2 : Sz (rq false (Int.toNat 2) (Int.toNat 20)) 1 := rq_sz (by decide) (by rw [Nat.pow_one]; decide) (by rw [Nat.pow_one]; decide)
  have e3 : (rq false 4 15).num.natAbs = 4 ∧ (rq false 4 15).den = 15 := by decide +kernel
  have OF := fun w1 => rat_of (-3) (by omega) (by omega) w1
  have SG := fun (w1 : World) (t1 : Bool) (C C' : Option Addr) (a b a' b' : Nat) (q : Q w1 t1 C a b C' a' b' ((-3 : Int) : Rat)) => rat_signE q (sz_of (-3) (by omega) (by omega)) (by omega) (-1) (by decide +kernel)
  rw [val_one, val_one] at MK2
  have AD := fun (w1 : World) (s t : Bool) (A A' B B' : Option Addr) (n n' c c' m m' d d' : Nat) (h : Q w1 s A n c A' n' c' (rq false (Int.toNat 1) (Int.toNat 6))) (k : Q w1 t B m d B' m' d' (rq false (Int.toNat 2) (Int.toNat 20))) => rat_add h k z1 z2 (by omega)
  rw [e1] at AD
  generalize rq false (Int.toNat 1) (Int.toNat 6) = X at *
  generalize rq false (Int.toNat 2) (Int.toNat 20) = Y at *
  generalize rq false 4 15 = Z at *
  generalize ((-3 : Int) : Rat) = R at *
  have HV := Lib.hid hV
  have HMK1 := Lib.hid MK1
  have HMK2 := Lib.hid MK2
  have HAD := Lib.hid AD
  have HOF := Lib.hid OF
  have HSG := Lib.hid SG
  have HE3 := Lib.hid e3
  clear hV MK1 MK2 AD OF SG e1 e3 z1 z2
  go_enter Try.func9, Try.ntmps9
  go_wp2_with fail
  rw [HV.out]
  clear HV
  refine HMK1.out.mono ?_
  rintro _ w1 ⟨s1, A1, n1, c1, D1, m1, d1, rfl, q1, b1⟩
  obtain ⟨w2, hV, Bx2, b2⟩ := box0 24 w1 #[.bool s1, .slice A1 n1 c1, .slice D1 m1 d1]
  obtain ⟨w3, hV3, t3, t4, b3⟩ := lits w2 2 20 (by unfold U; omega) (by unfold U; omega)
  have hs2 : w2.heap.size = w1.heap.size + 1 := by rw [← hV]; simp
  rw [hs2] at t3 t4
  rw [← hV] at hV3
  have HV3 := Lib.hid hV3
  clear hV3 hV hs2
  go_wp2_with fail
  rw [HV3.out]
  clear HV3
  refine (HMK2.out w _ _ _ 1 1 1 1 t3 t4).mono ?_
  rintro _ w4 ⟨s4, A4, n4, c4, D4, m4, d4, rfl, q4, b4⟩
  have Bx4 := (Bx2.below' b3).below' b4
  have hz4 := Bx4.lt
  obtain ⟨⟨k0, k1, k2⟩, _, _, _⟩ := Bx4.three
  obtain ⟨w5, hV5, Bx5, b5⟩ := box0 24 w4 #[.bool s4, .slice A4 n4 c4, .slice D4 m4 d4]
  have HV5 := Lib.hid hV5
  clear hV5
  go_wp2_with fail
  rw [HV5.out]
  clear HV5
  refine (HAD.out _ _ _ _ _ _ _ _ _ _ _ _ _ _ _ ((((q1.below b2).below b3).below b4).below b5) (q4.below b5)).mono ?_
  rintro _ w6 ⟨s6, A6, n6, c6, D6, m6, d6, rfl, q6, b6⟩
  have h1 := q6.2.1
  have h2 := q6.2.2
  rw [HE3.out.1] at h1
  rw [HE3.out.2] at h2
  obtain ⟨rfl, p, o, rfl, hp, kp⟩ := sl_word h1 (by omega) (by unfold W; omega)
  obtain ⟨rfl, p', o', rfl, hp', kp'⟩ := sl_word h2 (by omega) (by unfold W; omega)
  clear k0 k1 k2 hz4 h1 h2 q6 Bx4 Bx5 Bx2
  have x6 := bb hb0 (bb b1 (bb b2 (bb b3 (bb b4 (bb b5 b6)))))
  clear b1 b2 b3 b4 b5 b6 q1 q4 t1 t2 t3 t4 HAD HMK1 HMK2 HE3
  go_wp2_with fail
  refine (HOF.out _).mono ?_
  rintro _ w7 ⟨s7, A7, n7, c7, D7, m7, d7, rfl, q7, b7⟩
  go_wp2_with fail
  refine (HSG.out _ _ _ _ _ _ _ _ q7).mono ?_
  rintro _ w8 ⟨rfl, b8⟩
  go_wp2_with fail
  go_ret
  exact ⟨rfl, bb (x6.alloc x6.size _) (bb b7 b8)⟩

set_option maxHeartbeats 1000000 in
theorem right07 {w : World} {s : Bool} {A A' : Option Addr} {n n' c c' : Nat} {xs ys : List Int} (h : Sl w A n c xs) (h' : Sl w A' n' c' ys) :
    Calls Try.prog 19 #[.agg #[.bool s, .slice A n c, .slice A' n' c']] w (RetBl (decide (n ≤ 6 ∧ n' ≤ 6) && rightB s xs ys) w) := by
  have L := fun w1 => plain_long (w := w1) (s := s) (A := A) (A' := A') (n := n) (n' := n') (c := c) (c' := c') 6
  obtain ⟨V, hV, B, hb0⟩ := box0 24 w #[.bool s, .slice A n c, .slice A' n' c']
  by_cases hl : n ≤ 6 ∧ n' ≤ 6
  · rw [decide_eq_false (by omega)] at L
    have R := fun w1 (hb : Below w.heap.size w w1) => ref_ratRight (s := s) (N := 6) (h.below hb) (h'.below hb) hl.1 hl.2 (by omega)
    rw [decide_eq_true hl, Bool.true_and]
    generalize rightB s xs ys = r at *
    have HL := Lib.hid L
    have HR := Lib.hid R
    have HV := Lib.hid hV
    clear L R hV hl
    go_enter Try.func19, Try.ntmps19
    go_wp2_with fail
    rw [HV.out]
    refine (HL.out _).mono ?_
    rintro _ w1 ⟨rfl, b1⟩
    obtain ⟨⟨k0, k1, k2⟩, _, _, _⟩ := (B.below' b1).three
    go_wp2_with fail
    refine (HR.out _ (bb hb0 b1)).mono ?_
    rintro _ w2 ⟨rfl, b2⟩
    go_wp2_with fail
    go_ret
    exact ⟨rfl, bb hb0 (bb b1 b2)⟩
  · rw [decide_eq_true (by omega)] at L
    rw [decide_eq_false hl, Bool.false_and]
    have HL := Lib.hid L
    have HV := Lib.hid hV
    clear L hV hl
    go_enter Try.func19, Try.ntmps19
    go_wp2_with fail
    rw [HV.out]
    refine (HL.out _).mono ?_
    rintro _ w1 ⟨rfl, b1⟩
    go_wp2_with fail
    go_ret
    exact ⟨rfl, bb hb0 b1⟩
theorem right07_Q {w : World} {s : Bool} {A A' : Option Addr} {n n' c c' : Nat} {xs ys : List Int} (h : Sl w A n c xs) (h' : Sl w A' n' c' ys) (hr : (decide (n ≤ 6 ∧ n' ≤ 6) && rightB s xs ys) = true) :
    ∃ X, Q w s A n c A' n' c' X ∧ Sz X 6 := by
  rw [Bool.and_eq_true, decide_eq_true_eq] at hr
  obtain ⟨X, h1, h2, _⟩ := right_Q h h' hr.1.1 hr.1.2 hr.2
  exact ⟨X, h1, h2⟩

end Go.Proofs.Ytnheefhbchkbdaa
