/-
  What power.Floor does, told by Lean's own Rat. Conditions: the numbers of at most N words, N at most 100.
-/
import Derived.Test.YtnheefhbchkbdaaGreatDoorRatMathAll
import Derived.Test.YtnheefhbchkbdaaGreatDoorDigitRead2
import Derived.Test.YtnheefhbchkbdaaGreatDoorRefRatAll
namespace Go.Proofs.YtnheefhbchkbdaaGreatDoor
set_option maxRecDepth 100000
set_option linter.unusedVariables false
set_option linter.unusedSimpArgs false

theorem neg_pow (X : Rat) (k : Nat) : neg_ (X ^ k) = (neg_ X && decide (k % 2 = 1)) := by
  unfold neg_
  rw [Rat.num_pow]
  rw [Bool.eq_iff_iff]
  simp only [decide_eq_true_eq, Bool.and_eq_true]
  have hsq : ∀ z : Int, 0 ≤ z * z := fun z => by
    rcases Int.le_total 0 z with h | h
    · exact Int.mul_nonneg h h
    · have := Int.mul_nonneg (show 0 ≤ -z by omega) (show 0 ≤ -z by omega)
      rw [Int.neg_mul_neg] at this; exact this
  have he : ∀ m : Nat, 0 ≤ X.num ^ (2 * m) := fun m => by
    rw [Nat.mul_comm, Int.pow_mul]
    have : X.num ^ m ^ 1 = X.num ^ m := by rw [Nat.pow_one]
    rw [Int.pow_succ, Int.pow_one]
    exact hsq _
  rcases Nat.mod_two_eq_zero_or_one k with h | h
  · obtain ⟨m, rfl⟩ : ∃ m, k = 2 * m := ⟨k / 2, by omega⟩
    have := he m
    constructor
    · intro e; omega
    · intro e; omega
  · obtain ⟨m, rfl⟩ : ∃ m, k = 2 * m + 1 := ⟨k / 2, by omega⟩
    have h2 := he m
    rw [Int.pow_succ]
    constructor
    · intro e
      refine ⟨?_, h⟩
      by_cases hn : X.num < 0
      · exact hn
      · have := Int.mul_nonneg h2 (show 0 ≤ X.num by omega)
        omega
    · rintro ⟨hn, _⟩
      have h3 : X.num ^ (2 * m) ≠ 0 := by
        intro e
        have h4 : (X.num ^ (2 * m)).natAbs = 0 := by rw [e]; rfl
        rw [Int.natAbs_pow] at h4
        have : 0 < X.num.natAbs ^ (2 * m) := Nat.pow_pos (by omega)
        omega
      exact Int.mul_neg_of_pos_of_neg (by omega) hn
theorem num_pow_abs (X : Rat) (k : Nat) : (X ^ k).num.natAbs = X.num.natAbs ^ k := by rw [Rat.num_pow, Int.natAbs_pow]
theorem den_pow_ (X : Rat) (k : Nat) : (X ^ k).den = X.den ^ k := Rat.den_pow X k
theorem Sz.pow {X : Rat} {N k : Nat} (h : Sz X N) : Sz (X ^ k) (N * k + 1) := by
  have hp : ∀ v, v < W ^ N → v ^ k < W ^ (N * k + 1) := fun v hv => by
    rw [Nat.pow_succ, Nat.pow_mul]
    have h1 : v ^ k ≤ (W ^ N) ^ k := Nat.pow_le_pow_left (by omega) k
    have h2 : 0 < (W ^ N) ^ k := Nat.pow_pos (Nat.pow_pos W_pos)
    have h3 : (W ^ N) ^ k * 2 ≤ (W ^ N) ^ k * W := Nat.mul_le_mul_left _ (by unfold W; omega)
    omega
  exact ⟨by rw [num_pow_abs]; exact hp _ h.1, by rw [den_pow_]; exact hp _ h.2⟩
/-- the greatest integer that is not greater -/
def flr (X : Rat) : Rat := ((X.floor : Int) : Rat)
theorem floor_pos {X : Rat} (h : neg_ X = false) : X.floor = ((X.num.natAbs / X.den : Nat) : Int) := by
  rw [Rat.floor_def]
  unfold neg_ at h
  rw [decide_eq_false_iff_not] at h
  have e : X.num = (X.num.natAbs : Int) := by omega
  rw [Int.natCast_ediv]
  rw [← e]
theorem ediv_neg_nat (p q : Nat) (hq : 0 < q) : (-(p : Int)) / (q : Int) = -(((p / q : Nat) : Int) + if p % q = 0 then 0 else 1) := by
  have hd := Nat.div_add_mod p q
  have hm := Nat.mod_lt p hq
  generalize p / q = d at *
  generalize p % q = r at *
  have hd' : (p : Int) = q * d + r := by rw [← hd]; simp
  split
  · rename_i h0
    subst h0
    rw [show -(p : Int) = (q : Int) * (-(d : Int)) by rw [hd', Int.mul_neg]; simp]
    rw [Int.mul_ediv_cancel_left _ (by omega)]
    simp
  · rename_i h0
    have : -(p : Int) = (q : Int) * (-((d : Int) + 1)) + ((q : Int) - r) := by
      rw [hd', Int.mul_neg, Int.mul_add]; omega
    rw [this, Int.add_comm, Int.add_mul_ediv_left _ _ (by omega), Int.ediv_eq_zero_of_lt (by omega) (by omega)]
    omega
theorem floor_neg {X : Rat} (h : neg_ X = true) : X.floor = -(((X.num.natAbs / X.den : Nat) : Int) + if X.num.natAbs % X.den = 0 then 0 else 1) := by
  rw [Rat.floor_def]
  unfold neg_ at h
  rw [decide_eq_true_eq] at h
  have e : X.num = -(X.num.natAbs : Int) := by omega
  rw [← ediv_neg_nat _ _ (Nat.pos_of_ne_zero X.den_nz), ← e]
/-- the floor's number, its sign -/
def flN (X : Rat) : Nat := X.num.natAbs / X.den + if neg_ X && decide (X.num.natAbs % X.den ≠ 0) then 1 else 0
theorem flr_rq (X : Rat) : rq (neg_ X) (flN X) 1 = flr X := by
  unfold flr flN
  have hm : ∀ z : Int, mkRat z 1 = (z : Rat) := fun z => by
    have := Rat.mkRat_self (z : Rat)
    simpa using this
  cases hn : neg_ X
  · rw [floor_pos hn]
    unfold rq sI
    rw [hm]
    simp
  · rw [floor_neg hn]
    unfold rq sI
    rw [hm]
    congr 1
    by_cases h0 : X.num.natAbs % X.den = 0
    · simp [h0]
    · simp [h0]
theorem Sz.flr {X : Rat} {N : Nat} (h : Sz X N) : Sz (flr X) (N + 1) := by
  rw [← flr_rq]
  have h1 := h.1
  have h2 : X.num.natAbs / X.den ≤ X.num.natAbs := Nat.div_le_self _ _
  have t := two_pow_W N
  have p : 1 < W ^ N := h.pos
  refine rq_sz (by omega) ?_ (by omega)
  unfold flN
  split <;> omega

/-- the text of a number -/
def txtQ (X : Rat) : List UInt8 := (if neg_ X then [45] else []) ++ txt X.num.natAbs ++ (if X.den = 1 then [] else 47 :: txt X.den)
/-- what precedes the first / and what follows it -/
def above (l : List UInt8) : List UInt8 := l.takeWhile (· != 47)
def behind (l : List UInt8) : List UInt8 := if l.contains 47 then (l.dropWhile (· != 47)).drop 1 else [49]
def isNeg (l : List UInt8) : Bool := l.head? == some 45
def bare (l : List UInt8) : List UInt8 := if isNeg l then l.drop 1 else l
/-- the error's number, and the number, of a text -/
def rqe (l : List UInt8) : Int := if rde (above (bare l)) ≠ 0 then rde (above (bare l)) else if rde (behind (bare l)) ≠ 0 then rde (behind (bare l)) else if rdv (behind (bare l)) = 0 then 4 else 0
def rqv (l : List UInt8) : Rat := rq (isNeg l) (rdv (above (bare l))) (rdv (behind (bare l)))

theorem digits_no47 {n : Nat} : ∀ c ∈ txt n, (c != 47) = true := by
  intro c hc
  have := (txt_isNum n).2.2 c hc
  simp only [bne_iff_ne, ne_eq]
  rintro rfl
  simp at this
theorem takeWhile_all {p : UInt8 → Bool} {l r : List UInt8} (h : ∀ c ∈ l, p c = true) : (l ++ r).takeWhile p = l ++ r.takeWhile p := by
  induction l with
  | nil => rfl
  | cons a l ih => simp [h a (by simp), ih (fun c hc => h c (by simp [hc]))]
theorem dropWhile_all {p : UInt8 → Bool} {l r : List UInt8} (h : ∀ c ∈ l, p c = true) : (l ++ r).dropWhile p = r.dropWhile p := by
  induction l with
  | nil => rfl
  | cons a l ih => simp [h a (by simp), ih (fun c hc => h c (by simp [hc]))]
theorem txt_cons (n : Nat) : ∃ c l, txt n = c :: l ∧ 48 ≤ c.toNat := by
  have h := txt_isNum n
  match he : txt n, h with
  | [], h => exact absurd rfl h.1
  | c :: l, h => exact ⟨c, l, rfl, (h.2.2 c (by simp)).1⟩
theorem txtQ_bare (X : Rat) : isNeg (txtQ X) = neg_ X ∧ bare (txtQ X) = txt X.num.natAbs ++ (if X.den = 1 then [] else 47 :: txt X.den) := by
  unfold bare isNeg txtQ
  cases hn : neg_ X
  · obtain ⟨c, l, e, hc⟩ := txt_cons X.num.natAbs
    have hne : c ≠ 45 := by rintro rfl; simp at hc
    rw [e]
    simp [hne]
  · simp
theorem txt_one : txt 1 = [49] := by decide
theorem txtQ_parts (X : Rat) : above (bare (txtQ X)) = txt X.num.natAbs ∧ behind (bare (txtQ X)) = txt X.den := by
  rw [(txtQ_bare X).2]
  unfold above behind
  have hd := digits_no47 (n := X.num.natAbs)
  have h47 : ¬ (47 : UInt8) ∈ txt X.num.natAbs := fun h => by have := hd 47 h; simp at this
  by_cases h1 : X.den = 1
  · rw [if_pos h1, h1, txt_one, List.append_nil]
    refine ⟨?_, ?_⟩
    · have := takeWhile_all (r := []) hd
      simpa using this
    · rw [if_neg]
      simpa using h47
  · rw [if_neg h1]
    refine ⟨?_, ?_⟩
    · rw [takeWhile_all hd]; simp
    · rw [if_pos (by simp), dropWhile_all hd]; simp
theorem rd_of_txt {n : Nat} (h : (txt n).length ≤ 400) : rdv (txt n) = n ∧ rde (txt n) = 0 := by
  obtain ⟨h1, h2⟩ := rd_good h (txt_isNum n)
  exact ⟨by rw [h1, rd_txt], h2⟩
/-- what is written is read as it was -/
theorem read_show (X : Rat) (h1 : (txt X.num.natAbs).length ≤ 400) (h2 : (txt X.den).length ≤ 400) : rqe (txtQ X) = 0 ∧ rqv (txtQ X) = X := by
  obtain ⟨a, b⟩ := txtQ_parts X
  obtain ⟨c, d⟩ := rd_of_txt h1
  obtain ⟨e, f⟩ := rd_of_txt h2
  unfold rqe rqv
  rw [a, b, c, d, e, f, (txtQ_bare X).1, rq_self]
  simp [den_ne X]

end Go.Proofs.YtnheefhbchkbdaaGreatDoor

namespace Go.Proofs.YtnheefhbchkbdaaGreatDoor
set_option maxRecDepth 100000
open Go.RowKit
set_option linter.unusedVariables false
set_option linter.unusedSimpArgs false

/-- a call that only computes does so behind a draw too -/
theorem Calls.drewW {P : Program} {f : Nat} {args : Array Value} {V : World} {v : Value} (h : Calls P f args V fun e w' => e = .returned v ∧ V = w') : Calls P f args V fun e w' => e = .returned v ∧ V = w' := h

set_option maxRecDepth 100000 in
set_option maxHeartbeats 4000000 in
theorem pw_abs {w : World} {s : Bool} {A A' : Option Addr} {n n' c c' N : Nat} {X : Rat} (h : Q w s A n c A' n' c' X) (hX : Sz X N) (hN : N ≤ 100) :
    Calls Tryz.prog 12 #[.agg #[.bool s, .slice A n c, .slice A' n' c']] w (RetQ (rq false X.num.natAbs X.den) w) := by
  obtain ⟨V, hW, Ba, Br, hb0⟩ := boxes1 24 w #[.bool s, .slice A n c, .slice A' n' c'] #[.bool false, .slice none 0 0, .slice none 0 0]
  have l1 : n ≤ N := h.2.1.small hX.1
  have l2 : n' ≤ N := h.2.2.small hX.2
  have T1 := fun w1 (hb : Below V.heap.size V w1) => nat_trim (h.2.1.below (bb hb0 hb)) (by omega)
  have T2 := fun w1 (hb : Below V.heap.size V w1) => nat_trim (h.2.2.below (bb hb0 hb)) (by omega)
  rw [val_words] at T1 T2
  obtain ⟨q1, q2, q3⟩ := rq_cop' (s := false) (den_ne X) (gcd_num_den X)
  rw [Bool.false_and] at q3
  have hq : ∀ (w1 : World) (C C' : Option Addr) (a b a' b' : Nat), Sl w1 C a b (words X.num.natAbs) → Sl w1 C' a' b' (words X.den) → Q w1 false C a b C' a' b' (rq false X.num.natAbs X.den) := fun w1 C C' a b a' b' x y => ⟨q3.symm, by rw [q1]; exact x, by rw [q2]; exact y⟩
  have hS : ∀ w', Below V.heap.size V w' → w'.cell? ⟨w.heap.size, 0, none⟩ = some (.bool s) ∧ w'.cell? ⟨w.heap.size, 1, none⟩ = some (.slice A n c) ∧ w'.cell? ⟨w.heap.size, 2, none⟩ = some (.slice A' n' c') := fun w' hb => (Ba.below' hb).three.1
  generalize rq false X.num.natAbs X.den = Y at *
  generalize X.num.natAbs = p at *
  generalize X.den = q at *
  have HT1 := Lib.hid T1
  have HT2 := Lib.hid T2
  have HQ := Lib.hid hq
  have HS := Lib.hid hS
  have HBa := Lib.hid Ba
  have HBr := Lib.hid Br
  have HW := Lib.hid hW
  clear T1 T2 hq hS Ba Br hW q1 q2 q3 h hX
  go_enter Tryz.func12, Tryz.ntmps12
  go_wp2_with fail
  rw [HW.out]
  clear HW
  obtain ⟨k0, k1, k2⟩ := HS.out _ (Below.refl _ V)
  go_region_held3 (fun w' => w'.cell? ⟨w.heap.size, 0, none⟩ = some (.bool s) ∧ w'.cell? ⟨w.heap.size, 1, none⟩ = some (.slice A n c) ∧ w'.cell? ⟨w.heap.size, 2, none⟩ = some (.slice A' n' c')) (first | exact HS.out _ (Below.refl _ V).drew | exact HS4.out | exact HS.out _ x2 | exact HS.out _ x1 | fail)
    (first
      | (go_at_call 31; (with_reducible refine (HT1.out _ ?hb1).mono ?_); (case hb1 => exact (Below.refl _ V).drew); rintro _ w1 ⟨A1, n1, c1, rfl, t1, b1⟩; have x1 : Below V.heap.size V w1 := (Below.undrew b1))
      | (go_at_call 31; (with_reducible refine (HT2.out _ ?hb2).mono ?_); (case hb2 => exact x1); rintro _ w2 ⟨A2, n2, c2, rfl, t2, b2⟩; have x2 : Below V.heap.size V w2 := bb x1 b2; have q7 := HQ.out _ _ _ _ _ _ _ (t1.below b2) t2; have HS4 := Lib.hid ((HBa.out.below' x2).put3 (show w.heap.size ≠ w.heap.size + 1 by omega) (.bool false) (.slice A1 n1 c1) (.slice A2 n2 c2)).three.1; have B9 := HBr.out.below' x2; obtain ⟨⟨r0, r1, r2⟩, f0, f1, f2⟩ := B9.three))
  all_goals
    go_wp2_with fail
    refine bodyPost_ret (v := .agg #[.bool false, .slice A1 n1 c1, .slice A2 n2 c2]) (by simp [results, Tryz.results12, go_sem, r0, r1, r2]) rfl ?_
    exact ⟨_, _, _, _, _, _, _, rfl, q7.put3 ⟨_, _, _, _, _, _, _, B9⟩, below_put3 (bb hb0 x2) (by omega) (Nat.le_refl _) _ _ _⟩

set_option maxRecDepth 100000 in
set_option maxHeartbeats 4000000 in
theorem ref_abs {w : World} {s : Bool} {A A' : Option Addr} {n n' c c' N : Nat} {X : Rat} (h : Q w s A n c A' n' c' X) (hX : Sz X N) (hN : N ≤ 100) :
    Calls Tryz.prog 13 #[.agg #[.bool s, .slice A n c, .slice A' n' c']] w (RetQ (rq false X.num.natAbs X.den) w) := by
  obtain ⟨V, hW, Ba, Br, hb0⟩ := boxes1 24 w #[.bool s, .slice A n c, .slice A' n' c'] #[.bool false, .slice none 0 0, .slice none 0 0]
  have l1 : n ≤ N := h.2.1.small hX.1
  have l2 : n' ≤ N := h.2.2.small hX.2
  have MK := fun w1 (hb : Below V.heap.size V w1) => ref_make (N := N) false (h.2.1.below (bb hb0 hb)) (h.2.2.below (bb hb0 hb)) l1 l2 (by omega) (by rw [val_words]; exact den_ne X)
  simp only [val_words] at MK
  have HMK := Lib.hid MK
  have HW := Lib.hid hW
  have HBr := Lib.hid Br
  clear MK hW Br Ba h hX
  go_enter Tryz.func13, Tryz.ntmps13
  go_wp2_with fail
  refine (HMK.out _ (by rw [HW.out]; exact Below.refl _ _)).mono ?_
  rintro _ w3 ⟨s7, A7, n7, c7, A8, n8, c8, rfl, q7, x3⟩
  rw [HW.out] at x3
  have B9 := HBr.out.below' x3
  obtain ⟨⟨r0, r1, r2⟩, f0, f1, f2⟩ := B9.three
  go_wp2_with fail
  refine bodyPost_ret (v := .agg #[.bool s7, .slice A7 n7 c7, .slice A8 n8 c8]) (by simp [results, Tryz.results13, go_sem, r0, r1, r2]) rfl ?_
  exact ⟨_, _, _, _, _, _, _, rfl, q7.put3 ⟨_, _, _, _, _, _, _, B9⟩, below_put3 (bb hb0 x3) (by omega) (Nat.le_refl _) _ _ _⟩

end Go.Proofs.YtnheefhbchkbdaaGreatDoor

namespace Go.Proofs.YtnheefhbchkbdaaGreatDoor
set_option maxRecDepth 100000
open Go.RowKit
set_option linter.unusedVariables false
set_option linter.unusedSimpArgs false

set_option maxRecDepth 100000 in
set_option maxHeartbeats 4000000 in
theorem pw_bits {w : World} {s : Bool} {A A' : Option Addr} {n n' c c' N : Nat} {X : Rat} (h : Q w s A n c A' n' c' X) (hX : Sz X N) (hN : N ≤ 100) :
    Calls Tryz.prog 10 #[.agg #[.bool s, .slice A n c, .slice A' n' c']] w (RetI (max (blen X.num.natAbs : Int) (blen X.den)) w) := by
  obtain ⟨V, hW, Ba, hb0⟩ := box0 24 w #[.bool s, .slice A n c, .slice A' n' c']
  have l1 : n ≤ N := h.2.1.small hX.1
  have l2 : n' ≤ N := h.2.2.small hX.2
  have h1 := h.2.1.below hb0
  have h2 := h.2.2.below hb0
  have N1 := fun (w1 : World) (x : Sl w1 A n c (words X.num.natAbs)) => nat_bits x (by omega)
  have N2 := fun (w1 : World) (x : Sl w1 A' n' c' (words X.den)) => nat_bits x (by omega)
  simp only [val_words] at N1 N2
  have hS : ∀ w', Below V.heap.size V w' → w'.cell? ⟨w.heap.size, 0, none⟩ = some (.bool s) ∧ w'.cell? ⟨w.heap.size, 1, none⟩ = some (.slice A n c) ∧ w'.cell? ⟨w.heap.size, 2, none⟩ = some (.slice A' n' c') := fun w' hb => (Ba.below' hb).three.1
  generalize ((blen X.num.natAbs : Nat) : Int) = p at *
  generalize ((blen X.den : Nat) : Int) = q at *
  have HN1 := Lib.hid N1
  have HN2 := Lib.hid N2
  have HS := Lib.hid hS
  have HW := Lib.hid hW
  clear N1 N2 hS Ba hW h hX
  rcases Int.lt_trichotomy p q with hle | rfl | hle
  all_goals
    first | rw [show max p p = p by omega] | rw [show max p q = q by omega] | rw [show max p q = p by omega]
    go_enter Tryz.func10, Tryz.ntmps10
    go_wp2_with fail
    rw [HW.out]
    obtain ⟨k0, k1, k2⟩ := HS.out _ (Below.refl _ V)
    go_region_held3 (fun w' => w'.cell? ⟨w.heap.size, 0, none⟩ = some (.bool s) ∧ w'.cell? ⟨w.heap.size, 1, none⟩ = some (.slice A n c) ∧ w'.cell? ⟨w.heap.size, 2, none⟩ = some (.slice A' n' c')) (exact HS.out _ (Below.refl _ V).drew)
      (first
        | (go_at_call 29; (with_reducible refine (HN1.out _ ?hz1).mono ?_); (case hz1 => exact h1); rintro _ _ ⟨rfl, rfl⟩)
        | (go_at_call 29; (with_reducible refine (HN2.out _ ?hz2).mono ?_); (case hz2 => exact h2); rintro _ _ ⟨rfl, rfl⟩))
    all_goals
      go_wp2_with fail
      go_ret
      exact ⟨rfl, hb0.drew⟩

set_option maxRecDepth 100000 in
set_option maxHeartbeats 4000000 in
theorem ref_pbits {w : World} {s : Bool} {A A' : Option Addr} {n n' c c' N : Nat} {X : Rat} (h : Q w s A n c A' n' c' X) (hX : Sz X N) (hN : N ≤ 100) :
    Calls Tryz.prog 11 #[.agg #[.bool s, .slice A n c, .slice A' n' c']] w (RetI (max (blen X.num.natAbs : Int) (blen X.den)) w) := by
  obtain ⟨V, hW, Ba, hb0⟩ := box0 24 w #[.bool s, .slice A n c, .slice A' n' c']
  have l1 : n ≤ N := h.2.1.small hX.1
  have l2 : n' ≤ N := h.2.2.small hX.2
  have h1 := h.2.1.below hb0
  have h2 := h.2.2.below hb0
  have N1 := fun (w1 : World) (x : Sl w1 A n c (words X.num.natAbs)) => ref_bits x (by omega)
  have N2 := fun (w1 : World) (x : Sl w1 A' n' c' (words X.den)) => ref_bits x (by omega)
  simp only [val_words] at N1 N2
  have hS : ∀ w', Below V.heap.size V w' → w'.cell? ⟨w.heap.size, 0, none⟩ = some (.bool s) ∧ w'.cell? ⟨w.heap.size, 1, none⟩ = some (.slice A n c) ∧ w'.cell? ⟨w.heap.size, 2, none⟩ = some (.slice A' n' c') := fun w' hb => (Ba.below' hb).three.1
  generalize ((blen X.num.natAbs : Nat) : Int) = p at *
  generalize ((blen X.den : Nat) : Int) = q at *
  have HN1 := Lib.hid N1
  have HN2 := Lib.hid N2
  have HS := Lib.hid hS
  have HW := Lib.hid hW
  clear N1 N2 hS Ba hW h hX
  rcases Int.lt_trichotomy p q with hle | rfl | hle
  all_goals
    first | rw [show max p p = p by omega] | rw [show max p q = q by omega] | rw [show max p q = p by omega]
    go_enter Tryz.func11, Tryz.ntmps11
    go_wp2_with fail
    rw [HW.out]
    obtain ⟨k0, k1, k2⟩ := HS.out _ (Below.refl _ V)
    go_region_held3 (fun w' => w'.cell? ⟨w.heap.size, 0, none⟩ = some (.bool s) ∧ w'.cell? ⟨w.heap.size, 1, none⟩ = some (.slice A n c) ∧ w'.cell? ⟨w.heap.size, 2, none⟩ = some (.slice A' n' c')) (exact HS.out _ (Below.refl _ V).drew)
      (first
        | (go_at_call 30; (with_reducible refine (HN1.out _ ?hz1).mono ?_); (case hz1 => exact h1); rintro _ _ ⟨rfl, rfl⟩)
        | (go_at_call 30; (with_reducible refine (HN2.out _ ?hz2).mono ?_); (case hz2 => exact h2); rintro _ _ ⟨rfl, rfl⟩))
    all_goals
      go_wp2_with fail
      go_ret
      exact ⟨rfl, hb0.drew⟩

end Go.Proofs.YtnheefhbchkbdaaGreatDoor

namespace Go.Proofs.YtnheefhbchkbdaaGreatDoor
set_option maxRecDepth 100000
open Go.RowKit
set_option linter.unusedVariables false
set_option linter.unusedSimpArgs false

set_option maxRecDepth 100000 in
set_option maxHeartbeats 4000000 in
theorem pw_floor {w : World} {s : Bool} {A A' : Option Addr} {n n' c c' N : Nat} {X : Rat} (h : Q w s A n c A' n' c' X) (hX : Sz X N) (hN : N ≤ 100) :
    Calls Tryz.prog 14 #[.agg #[.bool s, .slice A n c, .slice A' n' c']] w (RetQ (flr X) w) := by
  obtain ⟨V, hW, Ba, Br, hb0⟩ := boxes1 24 w #[.bool s, .slice A n c, .slice A' n' c'] #[.bool false, .slice none 0 0, .slice none 0 0]
  have l1 : n ≤ N := h.2.1.small hX.1
  have l2 : n' ≤ N := h.2.2.small hX.2
  have hp : 0 < X.den := Nat.pos_of_ne_zero (den_ne X)
  have DV := fun w1 (hb : Below V.heap.size V w1) => quot_div (h.2.1.below (bb hb0 hb)) (h.2.2.below (bb hb0 hb)) (by omega) (by omega) (by rw [val_words]; exact hp)
  simp only [val_words] at DV
  have hfl := flr_rq X
  have hn := h.1
  have hfn : flN X = X.num.natAbs / X.den + if neg_ X && decide (X.num.natAbs % X.den ≠ 0) then 1 else 0 := rfl
  rw [← hn] at hfl hfn
  have hne : s = true → flN X ≠ 0 := by
    intro e
    have hpz : X.num.natAbs ≠ 0 := by
      intro e2
      have := neg_zero_ X e2
      rw [← hn, e] at this; cases this
    rw [hfn, e]
    by_cases h0 : X.num.natAbs % X.den = 0
    · have := Nat.div_add_mod X.num.natAbs X.den
      have h3 : X.num.natAbs / X.den ≠ 0 := by intro e3; rw [e3, h0] at this; simp at this; omega
      exact fun e4 => h3 (Nat.eq_zero_of_add_eq_zero_right e4)
    · simp [h0]
  obtain ⟨c1, c2, c3⟩ := rq_cop' (s := s) (p := flN X) (q := 1) (by omega) (Nat.gcd_one_right _)
  have vq : X.num.natAbs / X.den < W ^ N := Nat.lt_of_le_of_lt (Nat.div_le_self _ _) hX.1
  have O1 := fun w1 => nat_of 1 U_1 w1
  rw [show (1 : Int).toNat = 1 from rfl] at O1
  have AD := fun (w1 : World) (C C' : Option Addr) (a b a' b' : Nat) (x : Sl w1 C a b (words (X.num.natAbs / X.den))) (y : Sl w1 C' a' b' (words 1)) => nat_add x y (by have := x.small vq; omega) (by have := y.small (k := 1) (by rw [Nat.pow_one]; unfold W; omega); omega)
  simp only [val_words] at AD
  have hq : ∀ (w1 : World) (C C' : Option Addr) (a b a' b' : Nat), Sl w1 C a b (words (flN X)) → Sl w1 C' a' b' (words 1) → Q w1 s C a b C' a' b' (flr X) := fun w1 C C' a b a' b' x y => ⟨by
      rw [← hfl, c3]
      cases hs : s
      · rfl
      · rw [Bool.true_and, decide_eq_true (hne hs)], by rw [← hfl, c1]; exact x, by rw [← hfl, c2]; exact y⟩
  have hS : ∀ w', Below V.heap.size V w' → w'.cell? ⟨w.heap.size, 0, none⟩ = some (.bool s) ∧ w'.cell? ⟨w.heap.size, 1, none⟩ = some (.slice A n c) ∧ w'.cell? ⟨w.heap.size, 2, none⟩ = some (.slice A' n' c') := fun w' hb => (Ba.below' hb).three.1
  clear c1 c2 c3 hfl hn
  generalize flr X = Y at *
  generalize flN X = F at *
  generalize hd : X.num.natAbs / X.den = dv at *
  generalize hm : X.num.natAbs % X.den = md at *
  have HDV := Lib.hid DV
  have HO1 := Lib.hid O1
  have HAD := Lib.hid AD
  have HQ := Lib.hid hq
  have HS := Lib.hid hS
  have HBa := Lib.hid Ba
  have HBr := Lib.hid Br
  have HW := Lib.hid hW
  have HNE := Lib.hid hne
  clear DV O1 AD hq hS Ba Br hW h hX hp vq hd hm hne
  cases s
  · rw [Bool.false_and, if_neg (by simp), Nat.add_zero] at hfn
    subst hfn
    go_enter Tryz.func14, Tryz.ntmps14
    go_wp2_with fail
    refine (HDV.out _ (by rw [HW.out]; exact Below.refl _ _)).mono ?_
    rintro _ w1 ⟨A1, n1, c1, A2, n2, c2, rfl, t1, t2, b1⟩
    rw [HW.out] at b1
    clear HW
    obtain ⟨k0, k1, k2⟩ := HS.out _ b1
    go_wp2_with fail
    refine (HO1.out _).mono ?_
    rintro _ w9 ⟨A9, n9, c9, rfl, t9, b9⟩
    have x9 := bb b1 b9
    have q7 := HQ.out _ _ _ _ _ _ _ (t1.below b9) t9
    have B9 := HBr.out.below' x9
    obtain ⟨⟨r0, r1, r2⟩, f0, f1, f2⟩ := B9.three
    go_wp2_with fail
    refine bodyPost_ret (v := .agg #[.bool false, .slice A1 n1 c1, .slice A9 n9 c9]) (by simp [results, Tryz.results14, go_sem, r0, r1, r2]) rfl ?_
    exact ⟨_, _, _, _, _, _, _, rfl, q7.put3 ⟨_, _, _, _, _, _, _, B9⟩, below_put3 (bb hb0 x9) (by omega) (Nat.le_refl _) _ _ _⟩
  · by_cases h0 : md = 0
    · subst h0
      rw [decide_eq_false (by simp), Bool.and_false, if_neg (by simp), Nat.add_zero] at hfn
      subst hfn
      go_enter Tryz.func14, Tryz.ntmps14
      go_wp2_with fail
      refine (HDV.out _ (by rw [HW.out]; exact Below.refl _ _)).mono ?_
      rintro _ w1 ⟨A1, n1, c1, A2, n2, c2, rfl, t1, t2, b1⟩
      rw [HW.out] at b1
      clear HW
      obtain ⟨k0, k1, k2⟩ := HS.out _ b1
      have e2 := t2.len
      rw [words_zero] at e2
      obtain rfl : n2 = 0 := e2
      have e1 : ¬ n1 = 0 := fun e => HNE.out (by trivial) ((words_nil_iff' t1.len).1 e)
      have e3 : 0 < n1 := by omega
      have e4 : (0 : Int) < (n1 : Int) := by omega
      go_wp2_with fail
      refine (HO1.out _).mono ?_
      rintro _ w9 ⟨A9, n9, c9, rfl, t9, b9⟩
      have x9 := bb b1 b9
      have q7 := HQ.out _ _ _ _ _ _ _ (t1.below b9) t9
      have B9 := HBr.out.below' x9
      obtain ⟨⟨r0, r1, r2⟩, f0, f1, f2⟩ := B9.three
      go_wp2_with fail
      refine bodyPost_ret (v := .agg #[.bool true, .slice A1 n1 c1, .slice A9 n9 c9]) (by simp [results, Tryz.results14, go_sem, r0, r1, r2]) rfl ?_
      exact ⟨_, _, _, _, _, _, _, rfl, q7.put3 ⟨_, _, _, _, _, _, _, B9⟩, below_put3 (bb hb0 x9) (by omega) (Nat.le_refl _) _ _ _⟩
    · rw [decide_eq_true h0, Bool.and_true, if_pos rfl] at hfn
      go_enter Tryz.func14, Tryz.ntmps14
      go_wp2_with fail
      refine (HDV.out _ (by rw [HW.out]; exact Below.refl _ _)).mono ?_
      rintro _ w1 ⟨A1, n1, c1, A2, n2, c2, rfl, t1, t2, b1⟩
      rw [HW.out] at b1
      clear HW
      obtain ⟨k0, k1, k2⟩ := HS.out _ b1
      have e2 : ¬ n2 = 0 := fun e => h0 ((words_nil_iff' t2.len).1 e)
      have e3 : 0 < n2 := by omega
      have e4 : (0 : Int) < (n2 : Int) := by omega
      go_wp2_with fail
      refine (HO1.out _).mono ?_
      rintro _ w2 ⟨A3, n3, c3, rfl, t3, b2⟩
      go_wp2_with fail
      refine (HAD.out _ _ _ _ _ _ _ (t1.below b2) t3).mono ?_
      rintro _ w3 ⟨A4, n4, c4, rfl, t4, b3⟩
      rw [← hfn] at t4
      have x3 := bb b1 (bb b2 b3)
      have e5 : ¬ n4 = 0 := fun e => HNE.out (by trivial) ((words_nil_iff' t4.len).1 e)
      have e6 : 0 < n4 := by omega
      have e7 : (0 : Int) < (n4 : Int) := by omega
      clear k0 k1 k2
      obtain ⟨k0, k1, k2⟩ := HS.out _ x3
      go_wp2_with fail
      refine (HO1.out _).mono ?_
      rintro _ w9 ⟨A9, n9, c9, rfl, t9, b9⟩
      have x9 := bb x3 b9
      have q7 := HQ.out _ _ _ _ _ _ _ (t4.below b9) t9
      have B9 := HBr.out.below' x9
      obtain ⟨⟨r0, r1, r2⟩, f0, f1, f2⟩ := B9.three
      go_wp2_with fail
      refine bodyPost_ret (v := .agg #[.bool true, .slice A4 n4 c4, .slice A9 n9 c9]) (by simp [results, Tryz.results14, go_sem, r0, r1, r2]) rfl ?_
      exact ⟨_, _, _, _, _, _, _, rfl, q7.put3 ⟨_, _, _, _, _, _, _, B9⟩, below_put3 (bb hb0 x9) (by omega) (Nat.le_refl _) _ _ _⟩

end Go.Proofs.YtnheefhbchkbdaaGreatDoor
