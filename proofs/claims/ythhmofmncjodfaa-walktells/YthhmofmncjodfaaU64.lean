/-
  Plain mathematics of 64-bit words: carries, halves, products, quotients by halves, bit lengths. No Go in sight. No condition but those that each theorem names.
-/
import Derived.WalkKit
import Derived.OpenShut
namespace Go.Proofs.Ythhmofmncjodfaa
open Go.RowKit
set_option linter.unusedVariables false
set_option linter.unusedSimpArgs false

/-- a 64-bit word -/
def U (a : Int) : Prop := 0 ≤ a ∧ a < 18446744073709551616
def bel (a b : Int) : Int := if a < b then 1 else 0
def lo64 (n : Int) : Int := n % 18446744073709551616
def hi64 (n : Int) : Int := n / 18446744073709551616

theorem U.mk {a : Int} (h0 : 0 ≤ a) (h1 : a < 18446744073709551616) : U a := ⟨h0, h1⟩
theorem U.nn {a : Int} (h : U a) : 0 ≤ a := h.1
theorem U.wf {a : Int} (h : U a) : (Lit.int .u64 a).wf = true := by
  obtain ⟨h0, h1⟩ := h
  exact WalkArith.wf_u64 (by omega)
theorem U_of_wf {a : Int} (h : (Lit.int .u64 a).wf = true) : U a := by
  have := bounds_u64 h
  exact ⟨by omega, by omega⟩
theorem U_lo (n : Int) : U (lo64 n) := by unfold U lo64; omega
theorem U_0 : U 0 := by unfold U; omega
theorem U_1 : U 1 := by unfold U; omega
theorem wrapU (n : Int) : IntKind.u64.wrap n = n % 18446744073709551616 := IntKind.wrap_u64 n
theorem wrapU_lo (n : Int) : IntKind.u64.wrap n = lo64 n := IntKind.wrap_u64 n
theorem lo_U {a : Int} (h : U a) : lo64 a = a := by unfold U at h; unfold lo64; omega
theorem ret1 {k : IntKind} {a b : Int} (h : a = b) : Ending.returned (.int k a) = .returned (.int k b) := by rw [h]
theorem vint {k : IntKind} {a b : Int} (h : a = b) : Value.int k a = .int k b := by rw [h]
/-- the measure of a loop that counts a word or an int down -/
def mes (v : Value) : Nat := (intOf v).toNat
theorem mes_lt {k l : IntKind} {a b : Int} (h : a < b) (hb : 0 < b) : mes (.int k a) < mes (.int l b) := by
  show a.toNat < b.toNat
  omega
theorem retB {a b : Bool} (h : a = b) : Ending.returned (.bool a) = .returned (.bool b) := by rw [h]
theorem ret2 {k l : IntKind} {a b c d : Int} (h : a = c) (h' : b = d) : Ending.returned (.tuple #[.int k a, .int l b]) = .returned (.tuple #[.int k c, .int l d]) := by rw [h, h']
theorem ret3 {k l : IntKind} {a b c d : Int} {p q : Bool} (h : a = c) (h' : b = d) (h'' : p = q) : Ending.returned (.tuple #[.int k a, .int l b, .bool p]) = .returned (.tuple #[.int k c, .int l d, .bool q]) := by rw [h, h', h'']

theorem and_mask (k : Nat) (hk : 2 ^ k ≤ 18446744073709551616) {a : Int} (h : U a) : bits .and .u64 a ((2 ^ k - 1 : Nat) : Int) = a % ((2 ^ k : Nat) : Int) := by
  obtain ⟨h0, h1⟩ := h
  obtain ⟨n, rfl⟩ := Int.eq_ofNat_of_zero_le h0
  have hp : 0 < 2 ^ k := Nat.two_pow_pos k
  have e := u64_and_nat n (2 ^ k - 1) (by omega) (by omega)
  rw [Nat.and_two_pow_sub_one_eq_mod] at e
  rw [e]
  simp
theorem and32 {a : Int} (h : U a) : bits .and .u64 a 4294967295 = a % 4294967296 := and_mask 32 (by decide) h
theorem and1 {a : Int} (h : U a) : bits .and .u64 a 1 = a % 2 := and_mask 1 (by decide) h
theorem or_join (k : Nat) {x y : Int} (hx : U x) (hd : x % ((2 ^ k : Nat) : Int) = 0) (hy : 0 ≤ y) (hy' : y < ((2 ^ k : Nat) : Int)) (hyU : U y) : bits .or .u64 x y = x + y := by
  obtain ⟨h0, h1⟩ := hx
  obtain ⟨_, h3⟩ := hyU
  obtain ⟨n, rfl⟩ := Int.eq_ofNat_of_zero_le h0
  obtain ⟨m, rfl⟩ := Int.eq_ofNat_of_zero_le hy
  rw [u64_or_nat n m (by omega) (by omega), nat_join k n m (by exact_mod_cast hd) (by exact_mod_cast hy')]
  simp
theorem or32 {x y : Int} (hx : U x) (hd : x % 4294967296 = 0) (hy : 0 ≤ y) (hy' : y < 4294967296) : bits .or .u64 x y = x + y :=
  or_join 32 hx hd hy hy' (by unfold U; omega)
theorem or1 {x y : Int} (hx : U x) (hd : x % 2 = 0) (hy : 0 ≤ y) (hy' : y < 2) : bits .or .u64 x y = x + y :=
  or_join 1 hx hd hy hy' (by unfold U; omega)

/-! ### sums and differences -/
theorem add_lo (a b c : Int) : IntKind.u64.wrap (IntKind.u64.wrap (a + b) + c) = lo64 (a + b + c) := by
  simp only [wrapU, lo64]; omega
theorem add_hi {a b c : Int} (ha : U a) (hb : U b) (hc : U c) :
    IntKind.u64.wrap (bel (IntKind.u64.wrap (a + b)) a + bel (IntKind.u64.wrap (IntKind.u64.wrap (a + b) + c)) (IntKind.u64.wrap (a + b))) = hi64 (a + b + c) := by
  simp only [wrapU, hi64, U, bel] at *
  split <;> split <;> omega
/-- how often 2^64 was added -/
def bor (n : Int) : Int := -(n / 18446744073709551616)
theorem sub_lo (a b c : Int) : IntKind.u64.wrap (IntKind.u64.wrap (a - b) - c) = lo64 (a - b - c) := by
  simp only [wrapU, lo64]; omega
theorem sub_hi {a b c : Int} (ha : U a) (hb : U b) (hc : U c) :
    IntKind.u64.wrap (bel a b + bel (IntKind.u64.wrap (a - b)) c) = bor (a - b - c) := by
  simp only [wrapU, bor, U, bel] at *
  split <;> split <;> omega

/-! ### products -/
theorem mul_bound {a b : Int} {A B : Int} (ha : 0 ≤ a) (ha' : a ≤ A) (hb : 0 ≤ b) (hb' : b ≤ B) : 0 ≤ a * b ∧ a * b ≤ A * B :=
  ⟨Int.mul_nonneg ha hb, Int.le_trans (Int.mul_le_mul_of_nonneg_right ha' hb) (Int.mul_le_mul_of_nonneg_left hb' (by omega))⟩
theorem mul_split (a1 a0 b1 b0 : Int) : (a1 * 4294967296 + a0) * (b1 * 4294967296 + b0) = a1 * b1 * 18446744073709551616 + (a1 * b0 + a0 * b1) * 4294967296 + a0 * b0 := by
  grind
theorem mul_core {a b x00 x10 x01 x11 : Int} (ha : U a) (hb : U b)
    (h00 : x00 = (a % 4294967296) * (b % 4294967296)) (h10 : x10 = (a / 4294967296) * (b % 4294967296)) (h01 : x01 = (a % 4294967296) * (b / 4294967296)) (h11 : x11 = (a / 4294967296) * (b / 4294967296)) :
    (0 ≤ x00 ∧ x00 ≤ 18446744065119617025) ∧ (0 ≤ x10 ∧ x10 ≤ 18446744065119617025) ∧ (0 ≤ x01 ∧ x01 ≤ 18446744065119617025) ∧ (0 ≤ x11 ∧ x11 ≤ 18446744065119617025) ∧
    a * b = x11 * 18446744073709551616 + (x10 + x01) * 4294967296 + x00 := by
  unfold U at ha hb
  have e : a * b = x11 * 18446744073709551616 + (x10 + x01) * 4294967296 + x00 := by
    rw [h00, h10, h01, h11, ← mul_split]
    congr 1 <;> omega
  refine ⟨?_, ?_, ?_, ?_, e⟩
  · rw [h00]; exact mul_bound (A := 4294967295) (B := 4294967295) (by omega) (by omega) (by omega) (by omega)
  · rw [h10]; exact mul_bound (A := 4294967295) (B := 4294967295) (by omega) (by omega) (by omega) (by omega)
  · rw [h01]; exact mul_bound (A := 4294967295) (B := 4294967295) (by omega) (by omega) (by omega) (by omega)
  · rw [h11]; exact mul_bound (A := 4294967295) (B := 4294967295) (by omega) (by omega) (by omega) (by omega)
theorem U_wrap (n : Int) : U (IntKind.u64.wrap n) := by rw [wrapU]; unfold U; omega
theorem mul_hi {a b : Int} (ha : U a) (hb : U b) :
    IntKind.u64.wrap (IntKind.u64.wrap (IntKind.u64.wrap (a / 4294967296 * (b / 4294967296)) + IntKind.u64.wrap (IntKind.u64.wrap (a / 4294967296 * bits BinOp.and IntKind.u64 b 4294967295) + IntKind.u64.wrap (bits BinOp.and IntKind.u64 a 4294967295 * bits BinOp.and IntKind.u64 b 4294967295) / 4294967296) / 4294967296) + IntKind.u64.wrap (IntKind.u64.wrap (bits BinOp.and IntKind.u64 a 4294967295 * (b / 4294967296)) + bits BinOp.and IntKind.u64 (IntKind.u64.wrap (IntKind.u64.wrap (a / 4294967296 * bits BinOp.and IntKind.u64 b 4294967295) + IntKind.u64.wrap (bits BinOp.and IntKind.u64 a 4294967295 * bits BinOp.and IntKind.u64 b 4294967295) / 4294967296)) 4294967295) / 4294967296) = hi64 (a * b) := by
  rw [and32 ha, and32 hb, and32 (U_wrap _)]
  simp only [wrapU, hi64]
  generalize h00 : a % 4294967296 * (b % 4294967296) = x00
  generalize h10 : a / 4294967296 * (b % 4294967296) = x10
  generalize h01 : a % 4294967296 * (b / 4294967296) = x01
  generalize h11 : a / 4294967296 * (b / 4294967296) = x11
  obtain ⟨_, _, _, _, e⟩ := mul_core ha hb h00.symm h10.symm h01.symm h11.symm
  rw [e]
  clear h00 h10 h01 h11 e
  omega
theorem mul_lo {a b : Int} (ha : U a) (hb : U b) :
    bits BinOp.or IntKind.u64 (IntKind.u64.wrap (IntKind.u64.wrap (IntKind.u64.wrap (bits BinOp.and IntKind.u64 a 4294967295 * (b / 4294967296)) + bits BinOp.and IntKind.u64 (IntKind.u64.wrap (IntKind.u64.wrap (a / 4294967296 * bits BinOp.and IntKind.u64 b 4294967295) + IntKind.u64.wrap (bits BinOp.and IntKind.u64 a 4294967295 * bits BinOp.and IntKind.u64 b 4294967295) / 4294967296)) 4294967295) * 4294967296)) (bits BinOp.and IntKind.u64 (IntKind.u64.wrap (bits BinOp.and IntKind.u64 a 4294967295 * bits BinOp.and IntKind.u64 b 4294967295)) 4294967295) = lo64 (a * b) := by
  rw [and32 ha, and32 hb, and32 (U_wrap _), and32 (U_wrap _), or32 (U_wrap _) (by rw [wrapU]; omega) (by omega) (by omega)]
  simp only [wrapU, lo64]
  generalize h00 : a % 4294967296 * (b % 4294967296) = x00
  generalize h10 : a / 4294967296 * (b % 4294967296) = x10
  generalize h01 : a % 4294967296 * (b / 4294967296) = x01
  generalize h11 : a / 4294967296 * (b / 4294967296) = x11
  obtain ⟨_, _, _, _, e⟩ := mul_core ha hb h00.symm h10.symm h01.symm h11.symm
  rw [e]
  clear h00 h10 h01 h11 e
  omega

/-! ### the document's sums by halves -/
theorem radd_parts {a b c : Int} (ha : U a) (hb : U b) (hc : U c) :
    (bits BinOp.or IntKind.u64 (IntKind.u64.wrap ((a / 4294967296 + b / 4294967296 + c / 4294967296 + (a % 4294967296 + b % 4294967296 + c % 4294967296) / 4294967296) * 4294967296)) ((a % 4294967296 + b % 4294967296 + c % 4294967296) % 4294967296) = lo64 (a + b + c)) ∧
    (a / 4294967296 + b / 4294967296 + c / 4294967296 + (a % 4294967296 + b % 4294967296 + c % 4294967296) / 4294967296) / 4294967296 = hi64 (a + b + c) := by
  rw [or32 (U_wrap _) (by rw [wrapU]; omega) (by omega) (by omega)]
  simp only [wrapU, lo64, hi64, U] at *
  omega

/-! ### bit lengths -/
/-- how many bits a number has -/
def blen (n : Nat) : Nat := if n = 0 then 0 else n.log2 + 1
theorem blen_lt (n : Nat) : n < 2 ^ blen n := by
  unfold blen
  split
  · omega
  · exact Nat.lt_log2_self
theorem blen_le {n k : Nat} (h : n < 2 ^ k) : blen n ≤ k := by
  unfold blen
  split
  · omega
  · rename_i h0
    have := (Nat.log2_lt h0).2 h
    omega
theorem blen_ge {n k : Nat} (h : 2 ^ k ≤ n) : k + 1 ≤ blen n := by
  have h0 : n ≠ 0 := by have := Nat.two_pow_pos k; omega
  unfold blen
  rw [if_neg h0]
  have := (Nat.le_log2 h0).2 h
  omega
theorem blen_unique {n k : Nat} (h : n < 2 ^ (k + 1)) (h' : 2 ^ k ≤ n) : blen n = k + 1 := by
  have := blen_le h; have := blen_ge h'; omega
theorem blen_zero : blen 0 = 0 := rfl
theorem blen_pos {n : Nat} (h : 0 < n) : 0 < blen n := by unfold blen; rw [if_neg (by omega)]; omega
theorem blen_self {n : Nat} (h : 0 < n) : 2 ^ (blen n - 1) ≤ n := by
  unfold blen; rw [if_neg (by omega)]; exact Nat.log2_self_le (by omega)
theorem blen_half {n : Nat} (h : 0 < n) : blen n = blen (n / 2) + 1 := by
  rcases Nat.lt_or_ge n 2 with h1 | h1
  · have : n = 1 := by omega
    subst this; decide
  · have a := blen_self (n := n / 2) (by omega)
    have b := blen_lt (n / 2)
    have p := blen_pos (n := n / 2) (by omega)
    apply blen_unique
    · rw [Nat.pow_succ]; omega
    · have : 2 ^ blen (n / 2) = 2 ^ (blen (n / 2) - 1) * 2 := by rw [← Nat.pow_succ]; congr 1; omega
      omega
theorem blen_shr {n k : Nat} (h : n / 2 ^ k ≠ 0) : blen n = blen (n / 2 ^ k) + k := by
  induction k generalizing n with
  | zero => simp
  | succ k ih =>
    have e : n / 2 ^ (k + 1) = (n / 2) / 2 ^ k := by rw [Nat.pow_succ, Nat.mul_comm, Nat.div_div_eq_div_mul]
    rw [e] at h ⊢
    have h2 : 0 < n := by
      rcases Nat.eq_zero_or_pos n with rfl | h
      · simp at h
      · exact h
    rw [blen_half h2, ih h]
    omega
/-- where the bisection of a bit length stands: m is left, k bits are counted, t is the next step -/
def LenAt (n m k t : Nat) : Prop := (blen m + k = blen n ∧ blen n ≤ 64) ∧ (t = 32 ∧ m < 2 ^ 64 ∨ t = 16 ∧ m < 2 ^ 32 ∨ t = 8 ∧ m < 2 ^ 16 ∨ t = 4 ∧ m < 2 ^ 8 ∨ t = 2 ∧ m < 2 ^ 4 ∨ t = 1 ∧ m < 2 ^ 2 ∨ t = 0 ∧ m < 2)
theorem lenAt_0 {n : Nat} (h : n < 2 ^ 64) : LenAt n n 0 32 := ⟨⟨rfl, blen_le h⟩, .inl ⟨rfl, h⟩⟩
theorem lenAt_end {n m k : Nat} (h : LenAt n m k 0) : (k : Int) + (m : Int) = (blen n : Int) := by
  obtain ⟨⟨h1, _⟩, h2⟩ := h
  have hm : m < 2 := by omega
  have : blen m = m := by
    rcases (show m = 0 ∨ m = 1 by omega) with rfl | rfl <;> decide
  omega
theorem lenAt_no {n m k t : Nat} (h : LenAt n m k t) (h0 : t ≠ 0) (hd : m / 2 ^ t = 0) : LenAt n m k (t / 2) := by
  obtain ⟨h1, h2⟩ := h
  refine ⟨h1, ?_⟩
  have hl : m < 2 ^ t := by
    rcases Nat.lt_or_ge m (2 ^ t) with h | h
    · exact h
    · have := Nat.div_pos h (Nat.two_pow_pos t); omega
  rcases h2 with ⟨rfl, _⟩ | ⟨rfl, _⟩ | ⟨rfl, _⟩ | ⟨rfl, _⟩ | ⟨rfl, _⟩ | ⟨rfl, _⟩ | ⟨rfl, _⟩
  all_goals simp at hl h0 ⊢; try omega
theorem lenAt_yes {n m k t : Nat} (h : LenAt n m k t) (h0 : t ≠ 0) (hd : m / 2 ^ t ≠ 0) : LenAt n (m / 2 ^ t) (k + t) (t / 2) := by
  obtain ⟨⟨h1, h3⟩, h2⟩ := h
  refine ⟨⟨by have := blen_shr hd; omega, h3⟩, ?_⟩
  rcases h2 with ⟨rfl, _⟩ | ⟨rfl, _⟩ | ⟨rfl, _⟩ | ⟨rfl, _⟩ | ⟨rfl, _⟩ | ⟨rfl, _⟩ | ⟨rfl, _⟩
  all_goals simp at h0 ⊢; try omega
/-- where the product by doubling stands: the upper bits of m, down to bit k, are taken -/
def MulAt (n m : Nat) (h l : Int) (k : Nat) : Prop := k ≤ 64 ∧ U h ∧ U l ∧ h * 18446744073709551616 + l = n * ((m / 2 ^ k : Nat) : Int)
theorem mulAt_0 {n m : Nat} (hn : U n) (hm : U m) : MulAt n m 0 0 64 := by
  refine ⟨by omega, U_0, U_0, ?_⟩
  have : m / 2 ^ 64 = 0 := by unfold U at hm; omega
  rw [this]; simp
theorem mulAt_end {n m : Nat} {h l : Int} (H : MulAt n m h l 0) : h = hi64 (n * m) ∧ l = lo64 (n * m) := by
  obtain ⟨_, h1, h2, e⟩ := H
  simp at e
  unfold U at h1 h2
  unfold hi64 lo64
  rw [← e]
  omega
theorem mul_step {n m j : Nat} (hn : U n) (hm : U m) {P : Int} (h : P = n * ((m / 2 ^ (j + 1) : Nat) : Int)) :
    (n : Int) * ((m / 2 ^ j : Nat) : Int) = 2 * P + ((m / 2 ^ j % 2 : Nat) : Int) * n ∧ 0 ≤ (n : Int) * ((m / 2 ^ j : Nat) : Int) ∧ (n : Int) * ((m / 2 ^ j : Nat) : Int) ≤ 18446744073709551615 * 18446744073709551615 := by
  have e : m / 2 ^ j = 2 * (m / 2 ^ (j + 1)) + m / 2 ^ j % 2 := by
    rw [Nat.pow_succ, ← Nat.div_div_eq_div_mul]; omega
  have hle : m / 2 ^ j ≤ m := Nat.div_le_self _ _
  unfold U at hn hm
  refine ⟨?_, ?_⟩
  · generalize m / 2 ^ j % 2 = b at e ⊢
    rw [e, h]
    generalize m / 2 ^ (j + 1) = q
    push_cast
    grind
  · exact mul_bound (by omega) (by omega) (by omega) (by omega)
theorem bit_of (m j : Nat) (hm : U m) : bits BinOp.and IntKind.u64 ((m : Int) / 2 ^ j) 1 = ((m / 2 ^ j % 2 : Nat) : Int) := by
  have e : (m : Int) / 2 ^ j = ((m / 2 ^ j : Nat) : Int) := by push_cast; rfl
  have hle : m / 2 ^ j ≤ m := Nat.div_le_self _ _
  rw [e]
  generalize m / 2 ^ j = q at *
  rw [and1 (by unfold U at *; omega)]
  push_cast
  rfl
theorem mulAt_carry {n m j : Nat} {h l : Int} (hn : U n) (hm : U m) (H : MulAt n m h l (j + 1)) (hb : (bits BinOp.and IntKind.u64 ((m : Int) / 2 ^ j) 1 == 1) = true) (hc : IntKind.u64.wrap (lo64 (l * 2) + n) < lo64 (l * 2)) :
    MulAt n m (IntKind.u64.wrap (lo64 (h * 2 + hi64 (l * 2)) + 1)) (IntKind.u64.wrap (lo64 (l * 2) + n)) j := by
  obtain ⟨h1, h2, h3, e⟩ := H
  obtain ⟨e1, e2, e3⟩ := mul_step hn hm e
  rw [bit_of m j hm] at hb
  have hb1 : ((m / 2 ^ j % 2 : Nat) : Int) = 1 := by simpa using hb
  rw [hb1] at e1
  refine ⟨by omega, U_wrap _, U_wrap _, ?_⟩
  generalize (n : Int) * ((m / 2 ^ j : Nat) : Int) = T at *
  generalize (n : Int) * ((m / 2 ^ (j + 1) : Nat) : Int) = P at *
  simp only [wrapU, lo64, hi64, U] at *
  omega
theorem mulAt_yes {n m j : Nat} {h l : Int} (hn : U n) (hm : U m) (H : MulAt n m h l (j + 1)) (hb : (bits BinOp.and IntKind.u64 ((m : Int) / 2 ^ j) 1 == 1) = true) (hc : lo64 (l * 2) ≤ IntKind.u64.wrap (lo64 (l * 2) + n)) :
    MulAt n m (lo64 (h * 2 + hi64 (l * 2))) (IntKind.u64.wrap (lo64 (l * 2) + n)) j := by
  obtain ⟨h1, h2, h3, e⟩ := H
  obtain ⟨e1, e2, e3⟩ := mul_step hn hm e
  rw [bit_of m j hm] at hb
  have hb1 : ((m / 2 ^ j % 2 : Nat) : Int) = 1 := by simpa using hb
  rw [hb1] at e1
  refine ⟨by omega, U_lo _, U_wrap _, ?_⟩
  generalize (n : Int) * ((m / 2 ^ j : Nat) : Int) = T at *
  generalize (n : Int) * ((m / 2 ^ (j + 1) : Nat) : Int) = P at *
  simp only [wrapU, lo64, hi64, U] at *
  omega
theorem mulAt_no {n m j : Nat} {h l : Int} (hn : U n) (hm : U m) (H : MulAt n m h l (j + 1)) (hb : (bits BinOp.and IntKind.u64 ((m : Int) / 2 ^ j) 1 == 1) = false) :
    MulAt n m (lo64 (h * 2 + hi64 (l * 2))) (lo64 (l * 2)) j := by
  obtain ⟨h1, h2, h3, e⟩ := H
  obtain ⟨e1, e2, e3⟩ := mul_step hn hm e
  rw [bit_of m j hm] at hb
  have hb1 : ((m / 2 ^ j % 2 : Nat) : Int) = 0 := by
    have h9 : ((m / 2 ^ j % 2 : Nat) : Int) ≠ 1 := by simpa using hb
    generalize m / 2 ^ j = q at *
    omega
  rw [hb1] at e1
  refine ⟨by omega, U_lo _, U_lo _, ?_⟩
  generalize (n : Int) * ((m / 2 ^ j : Nat) : Int) = T at *
  generalize (n : Int) * ((m / 2 ^ (j + 1) : Nat) : Int) = P at *
  simp only [wrapU, lo64, hi64, U] at *
  omega
/-- where the quotient bit by bit stands -/
def DivAt (N d q r k : Nat) : Prop := k ≤ 64 ∧ q = N / 2 ^ k / d ∧ r = N / 2 ^ k % d
theorem divAt_0 {h l d : Nat} (hl : l < 2 ^ 64) (hd : h < d) : DivAt (h * 2 ^ 64 + l) d 0 h 64 := by
  have e : (h * 2 ^ 64 + l) / 2 ^ 64 = h := by omega
  refine ⟨by omega, ?_, ?_⟩
  · rw [e, Nat.div_eq_of_lt hd]
  · rw [e, Nat.mod_eq_of_lt hd]
theorem div_lt64 {h l d : Nat} (hl : l < 2 ^ 64) (hd : h < d) : (h * 2 ^ 64 + l) / d < 2 ^ 64 := by
  rw [Nat.div_lt_iff_lt_mul (by omega)]
  have : (h + 1) * 2 ^ 64 ≤ d * 2 ^ 64 := Nat.mul_le_mul_right _ hd
  rw [Nat.mul_comm (2 ^ 64) d]
  omega
theorem bit_low {h l j : Nat} (hj : j < 64) : (h * 2 ^ 64 + l) / 2 ^ j % 2 = l / 2 ^ j % 2 := by
  have e : h * 2 ^ 64 = 2 ^ j * (2 * (h * 2 ^ (63 - j))) := by
    have : (2 : Nat) ^ 64 = 2 ^ j * (2 * 2 ^ (63 - j)) := by rw [← Nat.pow_succ', ← Nat.pow_add]; congr 1; omega
    rw [this]; grind
  rw [e, Nat.mul_add_div (Nat.two_pow_pos j)]
  omega
theorem half_step (N j : Nat) : N / 2 ^ j = 2 * (N / 2 ^ (j + 1)) + N / 2 ^ j % 2 := by
  rw [Nat.pow_succ, ← Nat.div_div_eq_div_mul]; omega
theorem div_two (X d b : Nat) (hd : 0 < d) (hb : b < 2) :
    (d ≤ 2 * (X % d) + b → (2 * X + b) / d = 2 * (X / d) + 1 ∧ (2 * X + b) % d = 2 * (X % d) + b - d) ∧ (2 * (X % d) + b < d → (2 * X + b) / d = 2 * (X / d) ∧ (2 * X + b) % d = 2 * (X % d) + b) := by
  have hr : X % d < d := Nat.mod_lt _ hd
  have e : 2 * X + b = d * (2 * (X / d)) + (2 * (X % d) + b) := by
    have := Nat.div_add_mod X d
    grind
  generalize X % d = r at *
  generalize X / d = q at *
  rw [e]
  refine ⟨fun h => ?_, fun h => ?_⟩
  · have e2 : d * (2 * q) + (2 * r + b) = d * (2 * q + 1) + (2 * r + b - d) := by rw [Nat.mul_add]; omega
    rw [e2, Nat.mul_add_div hd, Nat.mul_add_mod, Nat.div_eq_of_lt (by omega), Nat.mod_eq_of_lt (by omega)]
    omega
  · rw [Nat.mul_add_div hd, Nat.mul_add_mod, Nat.div_eq_of_lt h, Nat.mod_eq_of_lt h]
    omega
theorem divAt_step {N d q r j : Nat} (hd : 0 < d) (H : DivAt N d q r (j + 1)) :
    r < d ∧ (d ≤ 2 * r + N / 2 ^ j % 2 → DivAt N d (2 * q + 1) (2 * r + N / 2 ^ j % 2 - d) j) ∧ (2 * r + N / 2 ^ j % 2 < d → DivAt N d (2 * q) (2 * r + N / 2 ^ j % 2) j) := by
  obtain ⟨h1, rfl, rfl⟩ := H
  have e := half_step N j
  have hb : N / 2 ^ j % 2 < 2 := Nat.mod_lt _ (by omega)
  obtain ⟨s1, s2⟩ := div_two (N / 2 ^ (j + 1)) d (N / 2 ^ j % 2) hd hb
  rw [← e] at s1 s2
  exact ⟨Nat.mod_lt _ hd, fun h => ⟨by omega, (s1 h).1.symm, (s1 h).2.symm⟩, fun h => ⟨by omega, (s2 h).1.symm, (s2 h).2.symm⟩⟩
theorem divAt_small {N d q r k : Nat} (H : DivAt N d q r k) (hN : N / d < 2 ^ 64) : q < 2 ^ 64 := by
  obtain ⟨_, rfl, _⟩ := H
  refine Nat.lt_of_le_of_lt ?_ hN
  exact Nat.div_le_div_right (Nat.div_le_self _ _)
theorem divAt_end {h l d q r : Nat} (H : DivAt (h * 2 ^ 64 + l) d q r 0) : (q : Int) = ((h : Int) * 18446744073709551616 + l) / d ∧ (r : Int) = ((h : Int) * 18446744073709551616 + l) % d := by
  obtain ⟨_, rfl, rfl⟩ := H
  have e : ((h : Int) * 18446744073709551616 + l) = ((h * 2 ^ 64 + l : Nat) : Int) := by omega
  rw [Nat.pow_zero, Nat.div_one, e, Int.natCast_ediv, Int.natCast_emod]
  exact ⟨rfl, rfl⟩
/-! ### a quotient by halves: the estimate from the divisor's upper half -/
def dhq (r x d : Nat) : Int := (((r * 4294967296 + x) / d : Nat) : Int)
def dhr (r x d : Nat) : Int := (((r * 4294967296 + x) % d : Nat) : Int)
/-- where the estimate q stands; s is what is left of r -/
def DhAt (r x d1 d0 q s : Nat) : Prop := q * d1 + s = r ∧ (r * 4294967296 + x) / (d1 * 4294967296 + d0) ≤ q ∧ q ≤ 4294967297 ∧ s < 4294967296
theorem dhAt_0 {r x d1 d0 : Nat} (hx : x < 4294967296) (h1 : 2147483648 ≤ d1) (h1' : d1 < 4294967296) (h0 : d0 < 4294967296) (hr : r < d1 * 4294967296 + d0) :
    DhAt r x d1 d0 (r / d1) (r % d1) := by
  have hm : r % d1 < d1 := Nat.mod_lt _ (by omega)
  have e := Nat.div_add_mod r d1
  refine ⟨by rw [Nat.mul_comm]; exact e, ?_, ?_, by omega⟩
  · rw [Nat.div_le_iff_le_mul (by omega)]
    have : (r / d1 + 1) * (d1 * 4294967296 + d0) = d1 * (r / d1) * 4294967296 + d1 * 4294967296 + (r / d1 + 1) * d0 := by grind
    have h9 : r / d1 * (d1 * 4294967296 + d0) = d1 * (r / d1) * 4294967296 + (r / d1) * d0 := by grind
    generalize d1 * (r / d1) = p at *
    generalize (r / d1) * d0 = p' at *
    omega
  · have : r / d1 < 4294967298 := by
      rw [Nat.div_lt_iff_lt_mul (by omega)]
      omega
    omega
theorem dhAt_prod {r x d1 d0 q s : Nat} (h0 : d0 < 4294967296) (H : DhAt r x d1 d0 q s) : q * d0 ≤ 18446744073709551615 := by
  obtain ⟨_, _, h, _⟩ := H
  have : q * d0 ≤ 4294967297 * 4294967295 := Nat.mul_le_mul h (by omega)
  omega
theorem dh_cmp {r x d1 d0 q s : Nat} (e : q * d1 + s = r) : q * (d1 * 4294967296 + d0) + s * 4294967296 = r * 4294967296 + q * d0 := by
  rw [← e]; grind
theorem dhAt_stop {r x d1 d0 q s : Nat} (h1 : 2147483648 ≤ d1) (H : DhAt r x d1 d0 q s) (h : q * d0 ≤ s * 4294967296 + x) : q = (r * 4294967296 + x) / (d1 * 4294967296 + d0) := by
  obtain ⟨e, h2, _, _⟩ := H
  have c := dh_cmp (x := x) (d0 := d0) e
  refine Nat.le_antisymm ?_ h2
  rw [Nat.le_div_iff_mul_le (by omega)]
  omega
theorem dhAt_next {r x d1 d0 q s : Nat} (h1 : 2147483648 ≤ d1) (H : DhAt r x d1 d0 q s) (h : s * 4294967296 + x < q * d0) :
    0 < q ∧ (q - 1) * d1 + (s + d1) = r ∧ (r * 4294967296 + x) / (d1 * 4294967296 + d0) ≤ q - 1 ∧ q - 1 ≤ 4294967296 := by
  obtain ⟨e, h2, h3, _⟩ := H
  have c := dh_cmp (x := x) (d0 := d0) e
  have hq : 0 < q := by
    rcases Nat.eq_zero_or_pos q with rfl | h9
    · rw [Nat.zero_mul] at h; omega
    · exact h9
  have : (r * 4294967296 + x) / (d1 * 4294967296 + d0) < q := by
    rw [Nat.div_lt_iff_lt_mul (by omega)]
    apply Nat.lt_of_add_lt_add_right (n := s * 4294967296)
    rw [c, Nat.add_assoc]
    exact Nat.add_lt_add_left (by rw [Nat.add_comm]; exact h) _
  refine ⟨hq, ?_, by omega, by omega⟩
  obtain ⟨q', rfl⟩ : ∃ q', q = q' + 1 := ⟨q - 1, by omega⟩
  have : (q' + 1) * d1 = q' * d1 + d1 := by grind
  simp only [Nat.add_sub_cancel]
  omega
theorem dhAt_more {r x d1 d0 q s : Nat} (h1 : 2147483648 ≤ d1) (H : DhAt r x d1 d0 q s) (h : s * 4294967296 + x < q * d0) (hs : s + d1 < 4294967296) : DhAt r x d1 d0 (q - 1) (s + d1) := by
  obtain ⟨_, a, b, c⟩ := dhAt_next h1 H h
  exact ⟨a, b, by omega, hs⟩
theorem dhAt_break {r x d1 d0 q s : Nat} (h1 : 2147483648 ≤ d1) (h0 : d0 < 4294967296) (H : DhAt r x d1 d0 q s) (h : s * 4294967296 + x < q * d0) (hs : 4294967296 ≤ s + d1) : q - 1 = (r * 4294967296 + x) / (d1 * 4294967296 + d0) := by
  obtain ⟨_, e, b, c⟩ := dhAt_next h1 H h
  have c' := dh_cmp (x := x) (d0 := d0) e
  have : (q - 1) * d0 ≤ 4294967296 * 4294967296 := Nat.mul_le_mul c (by omega)
  refine Nat.le_antisymm ?_ b
  rw [Nat.le_div_iff_mul_le (by omega)]
  omega
theorem dh_rest {r x d : Nat} (hd : d < 18446744073709551616) (h0 : 0 < d) :
    IntKind.u64.wrap (IntKind.u64.wrap (IntKind.u64.wrap ((r : Int) * 4294967296) + x) - IntKind.u64.wrap (dhq r x d * d)) = dhr r x d := by
  unfold dhq dhr
  have e := Nat.div_add_mod (r * 4294967296 + x) d
  have hm := Nat.mod_lt (r * 4294967296 + x) h0
  have e2 : (((r * 4294967296 + x) / d : Nat) : Int) * d = ((d * ((r * 4294967296 + x) / d) : Nat) : Int) := by rw [Int.mul_comm, Int.natCast_mul]
  rw [e2]
  generalize d * ((r * 4294967296 + x) / d) = p at *
  generalize (r * 4294967296 + x) % d = m at *
  simp only [wrapU]
  omega
/-! ### the divisor shifted till its highest bit is set -/
theorem pow_split {s : Nat} (hs : s ≤ 64) : 2 ^ s * 2 ^ (64 - s) = 18446744073709551616 := by
  rw [← Nat.pow_add, show s + (64 - s) = 64 by omega]
theorem norm_facts {H L D s : Nat} (hHD : H < D) (hL : L < 18446744073709551616) (hD : D < 18446744073709551616) (hs : blen D + s = 64) :
    D * 2 ^ s < 18446744073709551616 ∧ 9223372036854775808 ≤ D * 2 ^ s ∧ H * 2 ^ s + L / 2 ^ (64 - s) < D * 2 ^ s ∧ L / 2 ^ (64 - s) < 2 ^ s ∧
    (H * 18446744073709551616 + L) * 2 ^ s = (H * 2 ^ s + L / 2 ^ (64 - s)) * 18446744073709551616 + L * 2 ^ s % 18446744073709551616 := by
  have hp := pow_split (s := s) (by omega)
  have p0 : 0 < 2 ^ s := Nat.two_pow_pos s
  have q0 : 0 < 2 ^ (64 - s) := Nat.two_pow_pos _
  have hb : D < 2 ^ (64 - s) := by have := blen_lt D; rwa [show blen D = 64 - s by omega] at this
  have hb2 : 2 ^ (63 - s) ≤ D := by have := blen_self (n := D) (by omega); rwa [show blen D - 1 = 63 - s by omega] at this
  have hh : 2 ^ s * 2 ^ (63 - s) = 9223372036854775808 := by rw [← Nat.pow_add, show s + (63 - s) = 63 by have := blen_pos (n := D) (by omega); omega]
  have hl : L / 2 ^ (64 - s) < 2 ^ s := by rw [Nat.div_lt_iff_lt_mul q0]; rw [hp]; exact hL
  have e1 : D * 2 ^ s < 2 ^ (64 - s) * 2 ^ s := Nat.mul_lt_mul_of_pos_right hb p0
  have e2 : 2 ^ (63 - s) * 2 ^ s ≤ D * 2 ^ s := Nat.mul_le_mul_right _ hb2
  have e3 : (H + 1) * 2 ^ s ≤ D * 2 ^ s := Nat.mul_le_mul_right _ hHD
  have e4 : (H + 1) * 2 ^ s = H * 2 ^ s + 2 ^ s := by grind
  refine ⟨by rw [Nat.mul_comm (2 ^ (64 - s)), hp] at e1; exact e1, by rw [Nat.mul_comm (2 ^ (63 - s)), hh] at e2; exact e2, by omega, hl, ?_⟩
  have e5 : L * 2 ^ s / 18446744073709551616 = L / 2 ^ (64 - s) := by
    rw [← hp, Nat.mul_comm (2 ^ s), Nat.mul_div_mul_right _ _ p0]
  have e6 := Nat.div_add_mod (L * 2 ^ s) 18446744073709551616
  rw [e5] at e6
  grind
theorem norm_quot {N D P T M : Nat} (hP : 0 < P) (hD : 0 < D * P) (hT : T < D * P) (e : N * P = T * 18446744073709551616 + M) (hM : M < 18446744073709551616) {q1 r1 q0 r0 : Nat}
    (h1 : q1 = (T * 4294967296 + M / 4294967296) / (D * P)) (h2 : r1 = (T * 4294967296 + M / 4294967296) % (D * P)) (h3 : q0 = (r1 * 4294967296 + M % 4294967296) / (D * P)) (h4 : r0 = (r1 * 4294967296 + M % 4294967296) % (D * P)) :
    q1 < 4294967296 ∧ q0 < 4294967296 ∧ r1 < D * P ∧ r0 < D * P ∧ q1 * 4294967296 + q0 = N / D ∧ r0 / P = N % D := by
  have d1 := Nat.div_add_mod (T * 4294967296 + M / 4294967296) (D * P)
  have d0 := Nat.div_add_mod (r1 * 4294967296 + M % 4294967296) (D * P)
  have l1 : r1 < D * P := by rw [h2]; exact Nat.mod_lt _ hD
  have l0 : r0 < D * P := by rw [h4]; exact Nat.mod_lt _ hD
  have b1 : q1 < 4294967296 := by
    rw [h1, Nat.div_lt_iff_lt_mul hD]
    have : (T + 1) * 4294967296 ≤ D * P * 4294967296 := Nat.mul_le_mul_right _ hT
    rw [Nat.mul_comm 4294967296 (D * P)]
    omega
  have b0 : q0 < 4294967296 := by
    rw [h3, Nat.div_lt_iff_lt_mul hD]
    have : (r1 + 1) * 4294967296 ≤ D * P * 4294967296 := Nat.mul_le_mul_right _ l1
    rw [Nat.mul_comm 4294967296 (D * P)]
    omega
  rw [← h1, ← h2] at d1
  rw [← h3, ← h4] at d0
  have k : N * P = (D * P) * (q1 * 4294967296 + q0) + r0 := by
    have m : M = M / 4294967296 * 4294967296 + M % 4294967296 := by omega
    generalize M / 4294967296 = m1 at *
    generalize M % 4294967296 = m0 at *
    grind
  have kq : (N * P) / (D * P) = q1 * 4294967296 + q0 := by rw [k, Nat.mul_add_div hD, Nat.div_eq_of_lt l0, Nat.add_zero]
  have kr : (N * P) % (D * P) = r0 := by rw [k, Nat.mul_add_mod, Nat.mod_eq_of_lt l0]
  rw [Nat.mul_div_mul_right _ _ hP] at kq
  rw [Nat.mul_mod_mul_right] at kr
  exact ⟨b1, b0, l1, l0, kq.symm, by rw [← kr, Nat.mul_div_cancel _ hP]⟩
theorem cast_shl (n s : Nat) : (n : Int) * 2 ^ s = ((n * 2 ^ s : Nat) : Int) := by rw [Int.natCast_mul, Int.natCast_pow]; rfl
theorem cast_shr (n s : Nat) : (n : Int) / 2 ^ s = ((n / 2 ^ s : Nat) : Int) := by rw [Int.natCast_ediv, Int.natCast_pow]; rfl
theorem shl_or (a b s : Nat) (ha : a < 18446744073709551616) (h0 : a % 2 ^ s = 0) (hb : b < 2 ^ s) (hb' : b < 18446744073709551616) :
    bits BinOp.or IntKind.u64 (IntKind.u64.wrap (a : Int)) (b : Int) = ((a + b : Nat) : Int) := by
  rw [wrapU_lo, lo_U (by unfold U; omega), or_join s (by unfold U; omega) (by rw [← Int.natCast_emod, h0]; rfl) (by omega) (by omega) (by unfold U; omega), Int.natCast_add]
theorem or32n {q1 q0 : Nat} (h1 : q1 < 4294967296) (h0 : q0 < 4294967296) : bits BinOp.or IntKind.u64 ((q1 : Int) * 4294967296) (q0 : Int) = ((q1 * 4294967296 + q0 : Nat) : Int) := by
  rw [or32 (by unfold U; omega) (by omega) (by omega) (by omega)]; omega
theorem div_setup {H L D : Nat} (hHD : H < D) (hL : L < 18446744073709551616) (hD : D < 18446744073709551616) : ∃ s D' T M M1 M0 Q1 R1 Q0 R0 : Nat,
    ((64 : Int) - (blen D : Int) = (s : Int) ∧ s ≤ 64 ∧ D' < 18446744073709551616 ∧ 9223372036854775808 ≤ D' ∧ T < D' ∧ R1 < D' ∧ R0 < D' ∧ M1 < 4294967296 ∧ M0 < 4294967296 ∧ Q1 < 4294967296 ∧ Q0 < 4294967296) ∧
    IntKind.u64.wrap ((D : Int) * 2 ^ s) = (D' : Int) ∧
    bits BinOp.or IntKind.u64 (IntKind.u64.wrap ((H : Int) * 2 ^ s)) ((L : Int) / 2 ^ (64 - s)) = (T : Int) ∧
    IntKind.u64.wrap ((L : Int) * 2 ^ s) = (M : Int) ∧
    (M : Int) / 4294967296 = (M1 : Int) ∧ bits BinOp.and IntKind.u64 (M : Int) 4294967295 = (M0 : Int) ∧
    dhq T M1 D' = (Q1 : Int) ∧ dhr T M1 D' = (R1 : Int) ∧ dhq R1 M0 D' = (Q0 : Int) ∧ dhr R1 M0 D' = (R0 : Int) ∧
    bits BinOp.or IntKind.u64 ((Q1 : Int) * 4294967296) (Q0 : Int) = ((H : Int) * 18446744073709551616 + L) / D ∧ (R0 : Int) / 2 ^ s = ((H : Int) * 18446744073709551616 + L) % D := by
  obtain ⟨s, hs⟩ : ∃ s, blen D + s = 64 := ⟨64 - blen D, by have : blen D ≤ 64 := blen_le hD; omega⟩
  obtain ⟨f1, f2, f3, f4, f5⟩ := norm_facts hHD hL hD hs
  have p0 : 0 < 2 ^ s := Nat.two_pow_pos s
  have hM' : L * 2 ^ s % 18446744073709551616 < 18446744073709551616 := Nat.mod_lt _ (by omega)
  have eM : IntKind.u64.wrap ((L : Int) * 2 ^ s) = ((L * 2 ^ s % 18446744073709551616 : Nat) : Int) := by
    rw [cast_shl, wrapU, Int.natCast_emod]; rfl
  have eT : bits BinOp.or IntKind.u64 (IntKind.u64.wrap ((H : Int) * 2 ^ s)) ((L : Int) / 2 ^ (64 - s)) = ((H * 2 ^ s + L / 2 ^ (64 - s) : Nat) : Int) := by
    rw [cast_shl, cast_shr]
    have hle : L / 2 ^ (64 - s) ≤ L := Nat.div_le_self _ _
    have h9 : H * 2 ^ s % 2 ^ s = 0 := Nat.mul_mod_left _ _
    generalize H * 2 ^ s = a at *
    generalize L / 2 ^ (64 - s) = b at *
    exact shl_or a b s (by omega) h9 f4 (by omega)
  have eD : IntKind.u64.wrap ((D : Int) * 2 ^ s) = ((D * 2 ^ s : Nat) : Int) := by
    rw [cast_shl, wrapU_lo, lo_U]; unfold U; generalize D * 2 ^ s = a at *; omega
  obtain ⟨g1, g2, g3, g4, g5, g6⟩ := norm_quot (N := H * 18446744073709551616 + L) p0 (by generalize D * 2 ^ s = a at *; omega) f3 f5 hM' rfl rfl rfl rfl
  refine ⟨s, D * 2 ^ s, H * 2 ^ s + L / 2 ^ (64 - s), L * 2 ^ s % 18446744073709551616, _, _, _, _, _, _, ⟨by omega, by omega, f1, f2, f3, g3, g4, ?_, ?_, g1, g2⟩, eD, eT, eM, ?_, ?_, rfl, rfl, rfl, rfl, ?_, ?_⟩
  · generalize L * 2 ^ s % 18446744073709551616 = M at *; omega
  · generalize L * 2 ^ s % 18446744073709551616 = M at *; omega
  · rw [Int.natCast_ediv]; rfl
  · rw [and32 (by unfold U; generalize L * 2 ^ s % 18446744073709551616 = M at *; omega), Int.natCast_emod]; rfl
  · have : ((H : Int) * 18446744073709551616 + L) / D = (((H * 18446744073709551616 + L) / D : Nat) : Int) := by rw [Int.natCast_ediv, Int.natCast_add, Int.natCast_mul]; rfl
    rw [this, ← g5]
    exact or32n g1 g2
  · have : ((H : Int) * 18446744073709551616 + L) % D = (((H * 18446744073709551616 + L) % D : Nat) : Int) := by rw [Int.natCast_emod, Int.natCast_add, Int.natCast_mul]; rfl
    rw [this, ← g6, cast_shr]
/-! ### what was added is taken away again; a quotient times the divisor, and what is left -/
theorem back_lo {q d r : Int} (hq : U q) : lo64 (lo64 (q + d + r) - d - r) = q := by
  unfold U at hq; unfold lo64; omega
theorem back_hi {q d r : Int} (hq : U q) : bor (lo64 (q + d + r) - d - r) = hi64 (q + d + r) := by
  unfold U at hq; unfold lo64 bor hi64; omega
theorem back_div {q d r : Int} (hq : U q) (hd : U d) (hr : U r) (h : r < d) :
    hi64 (q * d) + hi64 (lo64 (q * d) + r) = hi64 (q * d + r) ∧ lo64 (lo64 (q * d) + r) = lo64 (q * d + r) ∧ hi64 (q * d + r) < d ∧ 0 ≤ hi64 (q * d + r) := by
  have : q * d + r < 18446744073709551616 * d := by
    have h1 : (q + 1) * d ≤ 18446744073709551616 * d := Int.mul_le_mul_of_nonneg_right (by unfold U at hq; omega) hd.1
    have h2 : (q + 1) * d = q * d + d := by grind
    omega
  have h3 : 0 ≤ q * d := Int.mul_nonneg hq.1 hd.1
  have h4 := hr.1
  refine ⟨by unfold hi64 lo64; omega, by unfold lo64; omega, ?_, ?_⟩
  · unfold hi64; omega
  · unfold hi64; omega
theorem back_quot {q d r : Int} (hd : U d) (hr : U r) (h : r < d) :
    (hi64 (q * d + r) * 18446744073709551616 + lo64 (q * d + r)) / d = q ∧ (hi64 (q * d + r) * 18446744073709551616 + lo64 (q * d + r)) % d = r := by
  have e : hi64 (q * d + r) * 18446744073709551616 + lo64 (q * d + r) = r + q * d := by unfold hi64 lo64; omega
  have h0 := hr.1
  rw [e, Int.add_mul_ediv_right _ _ (by omega), Int.add_mul_emod_self_right, Int.ediv_eq_zero_of_lt h0 h, Int.emod_eq_of_lt h0 h]
  omega

end Go.Proofs.Ythhmofmncjodfaa
