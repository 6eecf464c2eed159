/-
  Plain mathematics of powers, floors and texts of exact numbers. No Go function in sight.
-/
import Derived.Test.YtnheefhbchkbdaaDoorRatMath
import Derived.Test.YtnheefhbchkbdaaDoorDigitRead2
namespace Go.Proofs.YtnheefhbchkbdaaDoor
set_option maxRecDepth 100000
set_option linter.unusedVariables false
set_option linter.unusedSimpArgs false

theorem neg_pow (X : Rat) (k : Nat) : neg_ (X ^ k) = (neg_ X && decide (k % 2 = 1)) := by
  unfold neg_
  rw [Rat.num_pow]
  rw [Bool.eq_iff_iff]
  simp only [decide_eq_true_eq, Bool.and_eq_true]
  have hsq : ∀ z : Int, 0 ≤ z * z := fun z => by
    rcases Int.le_total 0 z with h | h
    · exact Int.mul_nonneg h h
    · have := Int.mul_nonneg (show 0 ≤ -z by omega) (show 0 ≤ -z by omega)
      rw [Int.neg_mul_neg] at this; exact this
  have he : ∀ m : Nat, 0 ≤ X.num ^ (2 * m) := fun m => by
    rw [Nat.mul_comm, Int.pow_mul]
    have : X.num ^ m ^ 1 = X.num ^ m := by rw [Nat.pow_one]
    rw [Int.pow_succ, Int.pow_one]
    exact hsq _
  rcases Nat.mod_two_eq_zero_or_one k with h | h
  · obtain ⟨m, rfl⟩ : ∃ m, k = 2 * m := ⟨k / 2, by omega⟩
    have := he m
    constructor
    · intro e; omega
    · intro e; omega
  · obtain ⟨m, rfl⟩ : ∃ m, k = 2 * m + 1 := ⟨k / 2, by omega⟩
    have h2 := he m
    rw [Int.pow_succ]
    constructor
    · intro e
      refine ⟨?_, h⟩
      by_cases hn : X.num < 0
      · exact hn
      · have := Int.mul_nonneg h2 (show 0 ≤ X.num by omega)
        omega
    · rintro ⟨hn, _⟩
      have h3 : X.num ^ (2 * m) ≠ 0 := by
        intro e
        have h4 : (X.num ^ (2 * m)).natAbs = 0 := by rw [e]; rfl
        rw [Int.natAbs_pow] at h4
        have : 0 < X.num.natAbs ^ (2 * m) := Nat.pow_pos (by omega)
        omega
      exact Int.mul_neg_of_pos_of_neg (by omega) hn
theorem num_pow_abs (X : Rat) (k : Nat) : (X ^ k).num.natAbs = X.num.natAbs ^ k := by rw [Rat.num_pow, Int.natAbs_pow]
theorem den_pow_ (X : Rat) (k : Nat) : (X ^ k).den = X.den ^ k := Rat.den_pow X k
theorem Sz.pow {X : Rat} {N k : Nat} (h : Sz X N) : Sz (X ^ k) (N * k + 1) := by
  have hp : ∀ v, v < W ^ N → v ^ k < W ^ (N * k + 1) := fun v hv => by
    rw [Nat.pow_succ, Nat.pow_mul]
    have h1 : v ^ k ≤ (W ^ N) ^ k := Nat.pow_le_pow_left (by omega) k
    have h2 : 0 < (W ^ N) ^ k := Nat.pow_pos (Nat.pow_pos W_pos)
    have h3 : (W ^ N) ^ k * 2 ≤ (W ^ N) ^ k * W := Nat.mul_le_mul_left _ (by unfold W; omega)
    omega
  exact ⟨by rw [num_pow_abs]; exact hp _ h.1, by rw [den_pow_]; exact hp _ h.2⟩
/-- the greatest integer that is not greater -/
def flr (X : Rat) : Rat := ((X.floor : Int) : Rat)
theorem floor_pos {X : Rat} (h : neg_ X = false) : X.floor = ((X.num.natAbs / X.den : Nat) : Int) := by
  rw [Rat.floor_def]
  unfold neg_ at h
  rw [decide_eq_false_iff_not] at h
  have e : X.num = (X.num.natAbs : Int) := by omega
  rw [Int.natCast_ediv]
  rw [← e]
theorem ediv_neg_nat (p q : Nat) (hq : 0 < q) : (-(p : Int)) / (q : Int) = -(((p / q : Nat) : Int) + if p % q = 0 then 0 else 1) := by
  have hd := Nat.div_add_mod p q
  have hm := Nat.mod_lt p hq
  generalize p / q = d at *
  generalize p % q = r at *
  have hd' : (p : Int) = q * d + r := by rw [← hd]; simp
  split
  · rename_i h0
    subst h0
    rw [show -(p : Int) = (q : Int) * (-(d : Int)) by rw [hd', Int.mul_neg]; simp]
    rw [Int.mul_ediv_cancel_left _ (by omega)]
    simp
  · rename_i h0
    have : -(p : Int) = (q : Int) * (-((d : Int) + 1)) + ((q : Int) - r) := by
      rw [hd', Int.mul_neg, Int.mul_add]; omega
    rw [this, Int.add_comm, Int.add_mul_ediv_left _ _ (by omega), Int.ediv_eq_zero_of_lt (by omega) (by omega)]
    omega
theorem floor_neg {X : Rat} (h : neg_ X = true) : X.floor = -(((X.num.natAbs / X.den : Nat) : Int) + if X.num.natAbs % X.den = 0 then 0 else 1) := by
  rw [Rat.floor_def]
  unfold neg_ at h
  rw [decide_eq_true_eq] at h
  have e : X.num = -(X.num.natAbs : Int) := by omega
  rw [← ediv_neg_nat _ _ (Nat.pos_of_ne_zero X.den_nz), ← e]
/-- the floor's number, its sign -/
def flN (X : Rat) : Nat := X.num.natAbs / X.den + if neg_ X && decide (X.num.natAbs % X.den ≠ 0) then 1 else 0
theorem flr_rq (X : Rat) : rq (neg_ X) (flN X) 1 = flr X := by
  unfold flr flN
  have hm : ∀ z : Int, mkRat z 1 = (z : Rat) := fun z => by
    have := Rat.mkRat_self (z : Rat)
    simpa using this
  cases hn : neg_ X
  · rw [floor_pos hn]
    unfold rq sI
    rw [hm]
    simp
  · rw [floor_neg hn]
    unfold rq sI
    rw [hm]
    congr 1
    by_cases h0 : X.num.natAbs % X.den = 0
    · simp [h0]
    · simp [h0]
theorem Sz.flr {X : Rat} {N : Nat} (h : Sz X N) : Sz (flr X) (N + 1) := by
  rw [← flr_rq]
  have h1 := h.1
  have h2 : X.num.natAbs / X.den ≤ X.num.natAbs := Nat.div_le_self _ _
  have t := two_pow_W N
  have p : 1 < W ^ N := h.pos
  refine rq_sz (by omega) ?_ (by omega)
  unfold flN
  split <;> omega

/-- the text of a number -/
def txtQ (X : Rat) : List UInt8 := (if neg_ X then [45] else []) ++ txt X.num.natAbs ++ (if X.den = 1 then [] else 47 :: txt X.den)
/-- what precedes the first / and what follows it -/
def above (l : List UInt8) : List UInt8 := l.takeWhile (· != 47)
def behind (l : List UInt8) : List UInt8 := if l.contains 47 then (l.dropWhile (· != 47)).drop 1 else [49]
def isNeg (l : List UInt8) : Bool := l.head? == some 45
def bare (l : List UInt8) : List UInt8 := if isNeg l then l.drop 1 else l
/-- the error's number, and the number, of a text -/
def rqe (l : List UInt8) : Int := if rde (above (bare l)) ≠ 0 then rde (above (bare l)) else if rde (behind (bare l)) ≠ 0 then rde (behind (bare l)) else if rdv (behind (bare l)) = 0 then 4 else 0
def rqv (l : List UInt8) : Rat := rq (isNeg l) (rdv (above (bare l))) (rdv (behind (bare l)))

theorem digits_no47 {n : Nat} : ∀ c ∈ txt n, (c != 47) = true := by
  intro c hc
  have := (txt_isNum n).2.2 c hc
  simp only [bne_iff_ne, ne_eq]
  rintro rfl
  simp at this
theorem takeWhile_all {p : UInt8 → Bool} {l r : List UInt8} (h : ∀ c ∈ l, p c = true) : (l ++ r).takeWhile p = l ++ r.takeWhile p := by
  induction l with
  | nil => rfl
  | cons a l ih => simp [h a (by simp), ih (fun c hc => h c (by simp [hc]))]
theorem dropWhile_all {p : UInt8 → Bool} {l r : List UInt8} (h : ∀ c ∈ l, p c = true) : (l ++ r).dropWhile p = r.dropWhile p := by
  induction l with
  | nil => rfl
  | cons a l ih => simp [h a (by simp), ih (fun c hc => h c (by simp [hc]))]
theorem txt_cons (n : Nat) : ∃ c l, txt n = c :: l ∧ 48 ≤ c.toNat := by
  have h := txt_isNum n
  match he : txt n, h with
  | [], h => exact absurd rfl h.1
  | c :: l, h => exact ⟨c, l, rfl, (h.2.2 c (by simp)).1⟩
theorem txtQ_bare (X : Rat) : isNeg (txtQ X) = neg_ X ∧ bare (txtQ X) = txt X.num.natAbs ++ (if X.den = 1 then [] else 47 :: txt X.den) := by
  unfold bare isNeg txtQ
  cases hn : neg_ X
  · obtain ⟨c, l, e, hc⟩ := txt_cons X.num.natAbs
    have hne : c ≠ 45 := by rintro rfl; simp at hc
    rw [e]
    simp [hne]
  · simp
theorem txt_one : txt 1 = [49] := by decide
theorem txtQ_parts (X : Rat) : above (bare (txtQ X)) = txt X.num.natAbs ∧ behind (bare (txtQ X)) = txt X.den := by
  rw [(txtQ_bare X).2]
  unfold above behind
  have hd := digits_no47 (n := X.num.natAbs)
  have h47 : ¬ (47 : UInt8) ∈ txt X.num.natAbs := fun h => by have := hd 47 h; simp at this
  by_cases h1 : X.den = 1
  · rw [if_pos h1, h1, txt_one, List.append_nil]
    refine ⟨?_, ?_⟩
    · have := takeWhile_all (r := []) hd
      simpa using this
    · rw [if_neg]
      simpa using h47
  · rw [if_neg h1]
    refine ⟨?_, ?_⟩
    · rw [takeWhile_all hd]; simp
    · rw [if_pos (by simp), dropWhile_all hd]; simp
theorem rd_of_txt {n : Nat} (h : (txt n).length ≤ 400) : rdv (txt n) = n ∧ rde (txt n) = 0 := by
  obtain ⟨h1, h2⟩ := rd_good h (txt_isNum n)
  exact ⟨by rw [h1, rd_txt], h2⟩
/-- what is written is read as it was -/
theorem read_show (X : Rat) (h1 : (txt X.num.natAbs).length ≤ 400) (h2 : (txt X.den).length ≤ 400) : rqe (txtQ X) = 0 ∧ rqv (txtQ X) = X := by
  obtain ⟨a, b⟩ := txtQ_parts X
  obtain ⟨c, d⟩ := rd_of_txt h1
  obtain ⟨e, f⟩ := rd_of_txt h2
  unfold rqe rqv
  rw [a, b, c, d, e, f, (txtQ_bare X).1, rq_self]
  simp [den_ne X]

end Go.Proofs.YtnheefhbchkbdaaDoor
