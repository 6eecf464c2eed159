/-
  What package line's counting functions, and the document's beside them, return. Conditions: the slice reads as a list of at most 65536 instructions.
-/
import Derived.WalkKit
import Derived.OpenShut
import Derived.Test.YthpbaaanbimapaaGreatDoorProg
import Derived.WalkSpells
import Derived.WalkLawsBesides
import Derived.Lib.Hide
import Derived.Below
import Derived.Laws.OwnMore
import Derived.Laws.Rows
import Derived.Deep.OwnRows
import Derived.Deep.Draws
import Derived.Lib.SmallJoins
namespace Go.Proofs.YthpbaaanbimapaaGreatDoor
set_option maxRecDepth 100000
open Go.RowKit
set_option linter.unusedVariables false
set_option linter.unusedSimpArgs false

/-- a 64-bit word -/
def U (a : Int) : Prop := 0 ≤ a ∧ a < 18446744073709551616
def bel (a b : Int) : Int := if a < b then 1 else 0
def lo64 (n : Int) : Int := n % 18446744073709551616
def hi64 (n : Int) : Int := n / 18446744073709551616

theorem U.nn {a : Int} (h : U a) : 0 ≤ a := h.1
theorem U.wf {a : Int} (h : U a) : (Lit.int .u64 a).wf = true := by
  obtain ⟨h0, h1⟩ := h
  exact WalkArith.wf_u64 (by omega)
theorem U_of_wf {a : Int} (h : (Lit.int .u64 a).wf = true) : U a := by
  have := bounds_u64 h
  exact ⟨by omega, by omega⟩
theorem U_lo (n : Int) : U (lo64 n) := by unfold U lo64; omega
theorem U_0 : U 0 := by unfold U; omega
theorem U_1 : U 1 := by unfold U; omega
theorem wrapU (n : Int) : IntKind.u64.wrap n = n % 18446744073709551616 := IntKind.wrap_u64 n
theorem wrapU_lo (n : Int) : IntKind.u64.wrap n = lo64 n := IntKind.wrap_u64 n
theorem lo_U {a : Int} (h : U a) : lo64 a = a := by unfold U at h; unfold lo64; omega
theorem ret1 {k : IntKind} {a b : Int} (h : a = b) : Ending.returned (.int k a) = .returned (.int k b) := by rw [h]
theorem vint {k : IntKind} {a b : Int} (h : a = b) : Value.int k a = .int k b := by rw [h]
/-- the measure of a loop that counts a word or an int down -/
def mes (v : Value) : Nat := (intOf v).toNat
theorem mes_lt {k l : IntKind} {a b : Int} (h : a < b) (hb : 0 < b) : mes (.int k a) < mes (.int l b) := by
  show a.toNat < b.toNat
  omega
theorem retB {a b : Bool} (h : a = b) : Ending.returned (.bool a) = .returned (.bool b) := by rw [h]
theorem ret2 {k l : IntKind} {a b c d : Int} (h : a = c) (h' : b = d) : Ending.returned (.tuple #[.int k a, .int l b]) = .returned (.tuple #[.int k c, .int l d]) := by rw [h, h']
theorem ret3 {k l : IntKind} {a b c d : Int} {p q : Bool} (h : a = c) (h' : b = d) (h'' : p = q) : Ending.returned (.tuple #[.int k a, .int l b, .bool p]) = .returned (.tuple #[.int k c, .int l d, .bool q]) := by rw [h, h', h'']

theorem and_mask (k : Nat) (hk : 2 ^ k ≤ 18446744073709551616) {a : Int} (h : U a) : bits .and .u64 a ((2 ^ k - 1 : Nat) : Int) = a % ((2 ^ k : Nat) : Int) := by
  obtain ⟨h0, h1⟩ := h
  obtain ⟨n, rfl⟩ := Int.eq_ofNat_of_zero_le h0
  have hp : 0 < 2 ^ k := Nat.two_pow_pos k
  have e := u64_and_nat n (2 ^ k - 1) (by omega) (by omega)
  rw [Nat.and_two_pow_sub_one_eq_mod] at e
  rw [e]
  simp
theorem and32 {a : Int} (h : U a) : bits .and .u64 a 4294967295 = a % 4294967296 := and_mask 32 (by decide) h
theorem and1 {a : Int} (h : U a) : bits .and .u64 a 1 = a % 2 := and_mask 1 (by decide) h
theorem or_join (k : Nat) {x y : Int} (hx : U x) (hd : x % ((2 ^ k : Nat) : Int) = 0) (hy : 0 ≤ y) (hy' : y < ((2 ^ k : Nat) : Int)) (hyU : U y) : bits .or .u64 x y = x + y := by
  obtain ⟨h0, h1⟩ := hx
  obtain ⟨_, h3⟩ := hyU
  obtain ⟨n, rfl⟩ := Int.eq_ofNat_of_zero_le h0
  obtain ⟨m, rfl⟩ := Int.eq_ofNat_of_zero_le hy
  rw [u64_or_nat n m (by omega) (by omega), nat_join k n m (by exact_mod_cast hd) (by exact_mod_cast hy')]
  simp
theorem or32 {x y : Int} (hx : U x) (hd : x % 4294967296 = 0) (hy : 0 ≤ y) (hy' : y < 4294967296) : bits .or .u64 x y = x + y :=
  or_join 32 hx hd hy hy' (by unfold U; omega)
/-! ### sums and differences -/
theorem add_lo (a b c : Int) : IntKind.u64.wrap (IntKind.u64.wrap (a + b) + c) = lo64 (a + b + c) := by
  simp only [wrapU, lo64]; omega
theorem add_hi {a b c : Int} (ha : U a) (hb : U b) (hc : U c) :
    IntKind.u64.wrap (bel (IntKind.u64.wrap (a + b)) a + bel (IntKind.u64.wrap (IntKind.u64.wrap (a + b) + c)) (IntKind.u64.wrap (a + b))) = hi64 (a + b + c) := by
  simp only [wrapU, hi64, U, bel] at *
  split <;> split <;> omega
/-- how often 2^64 was added -/
def bor (n : Int) : Int := -(n / 18446744073709551616)
theorem sub_lo (a b c : Int) : IntKind.u64.wrap (IntKind.u64.wrap (a - b) - c) = lo64 (a - b - c) := by
  simp only [wrapU, lo64]; omega
theorem sub_hi {a b c : Int} (ha : U a) (hb : U b) (hc : U c) :
    IntKind.u64.wrap (bel a b + bel (IntKind.u64.wrap (a - b)) c) = bor (a - b - c) := by
  simp only [wrapU, bor, U, bel] at *
  split <;> split <;> omega

/-! ### products -/
theorem mul_bound {a b : Int} {A B : Int} (ha : 0 ≤ a) (ha' : a ≤ A) (hb : 0 ≤ b) (hb' : b ≤ B) : 0 ≤ a * b ∧ a * b ≤ A * B :=
  ⟨Int.mul_nonneg ha hb, Int.le_trans (Int.mul_le_mul_of_nonneg_right ha' hb) (Int.mul_le_mul_of_nonneg_left hb' (by omega))⟩
theorem mul_split (a1 a0 b1 b0 : Int) : (a1 * 4294967296 + a0) * (b1 * 4294967296 + b0) = a1 * b1 * 18446744073709551616 + (a1 * b0 + a0 * b1) * 4294967296 + a0 * b0 := by
  grind
theorem mul_core {a b x00 x10 x01 x11 : Int} (ha : U a) (hb : U b)
    (h00 : x00 = (a % 4294967296) * (b % 4294967296)) (h10 : x10 = (a / 4294967296) * (b % 4294967296)) (h01 : x01 = (a % 4294967296) * (b / 4294967296)) (h11 : x11 = (a / 4294967296) * (b / 4294967296)) :
    (0 ≤ x00 ∧ x00 ≤ 18446744065119617025) ∧ (0 ≤ x10 ∧ x10 ≤ 18446744065119617025) ∧ (0 ≤ x01 ∧ x01 ≤ 18446744065119617025) ∧ (0 ≤ x11 ∧ x11 ≤ 18446744065119617025) ∧
    a * b = x11 * 18446744073709551616 + (x10 + x01) * 4294967296 + x00 := by
  unfold U at ha hb
  have e : a * b = x11 * 18446744073709551616 + (x10 + x01) * 4294967296 + x00 := by
    rw [h00, h10, h01, h11, ← mul_split]
    congr 1 <;> omega
  refine ⟨?_, ?_, ?_, ?_, e⟩
  · rw [h00]; exact mul_bound (A := 4294967295) (B := 4294967295) (by omega) (by omega) (by omega) (by omega)
  · rw [h10]; exact mul_bound (A := 4294967295) (B := 4294967295) (by omega) (by omega) (by omega) (by omega)
  · rw [h01]; exact mul_bound (A := 4294967295) (B := 4294967295) (by omega) (by omega) (by omega) (by omega)
  · rw [h11]; exact mul_bound (A := 4294967295) (B := 4294967295) (by omega) (by omega) (by omega) (by omega)
theorem U_wrap (n : Int) : U (IntKind.u64.wrap n) := by rw [wrapU]; unfold U; omega
theorem mul_hi {a b : Int} (ha : U a) (hb : U b) :
    IntKind.u64.wrap (IntKind.u64.wrap (IntKind.u64.wrap (a / 4294967296 * (b / 4294967296)) + IntKind.u64.wrap (IntKind.u64.wrap (a / 4294967296 * bits BinOp.and IntKind.u64 b 4294967295) + IntKind.u64.wrap (bits BinOp.and IntKind.u64 a 4294967295 * bits BinOp.and IntKind.u64 b 4294967295) / 4294967296) / 4294967296) + IntKind.u64.wrap (IntKind.u64.wrap (bits BinOp.and IntKind.u64 a 4294967295 * (b / 4294967296)) + bits BinOp.and IntKind.u64 (IntKind.u64.wrap (IntKind.u64.wrap (a / 4294967296 * bits BinOp.and IntKind.u64 b 4294967295) + IntKind.u64.wrap (bits BinOp.and IntKind.u64 a 4294967295 * bits BinOp.and IntKind.u64 b 4294967295) / 4294967296)) 4294967295) / 4294967296) = hi64 (a * b) := by
  rw [and32 ha, and32 hb, and32 (U_wrap _)]
  simp only [wrapU, hi64]
  generalize h00 : a % 4294967296 * (b % 4294967296) = x00
  generalize h10 : a / 4294967296 * (b % 4294967296) = x10
  generalize h01 : a % 4294967296 * (b / 4294967296) = x01
  generalize h11 : a / 4294967296 * (b / 4294967296) = x11
  obtain ⟨_, _, _, _, e⟩ := mul_core ha hb h00.symm h10.symm h01.symm h11.symm
  rw [e]
  clear h00 h10 h01 h11 e
  omega
theorem mul_lo {a b : Int} (ha : U a) (hb : U b) :
    bits BinOp.or IntKind.u64 (IntKind.u64.wrap (IntKind.u64.wrap (IntKind.u64.wrap (bits BinOp.and IntKind.u64 a 4294967295 * (b / 4294967296)) + bits BinOp.and IntKind.u64 (IntKind.u64.wrap (IntKind.u64.wrap (a / 4294967296 * bits BinOp.and IntKind.u64 b 4294967295) + IntKind.u64.wrap (bits BinOp.and IntKind.u64 a 4294967295 * bits BinOp.and IntKind.u64 b 4294967295) / 4294967296)) 4294967295) * 4294967296)) (bits BinOp.and IntKind.u64 (IntKind.u64.wrap (bits BinOp.and IntKind.u64 a 4294967295 * bits BinOp.and IntKind.u64 b 4294967295)) 4294967295) = lo64 (a * b) := by
  rw [and32 ha, and32 hb, and32 (U_wrap _), and32 (U_wrap _), or32 (U_wrap _) (by rw [wrapU]; omega) (by omega) (by omega)]
  simp only [wrapU, lo64]
  generalize h00 : a % 4294967296 * (b % 4294967296) = x00
  generalize h10 : a / 4294967296 * (b % 4294967296) = x10
  generalize h01 : a % 4294967296 * (b / 4294967296) = x01
  generalize h11 : a / 4294967296 * (b / 4294967296) = x11
  obtain ⟨_, _, _, _, e⟩ := mul_core ha hb h00.symm h10.symm h01.symm h11.symm
  rw [e]
  clear h00 h10 h01 h11 e
  omega

/-! ### the document's sums by halves -/
/-! ### bit lengths -/
/-- how many bits a number has -/
def blen (n : Nat) : Nat := if n = 0 then 0 else n.log2 + 1
theorem blen_lt (n : Nat) : n < 2 ^ blen n := by
  unfold blen
  split
  · omega
  · exact Nat.lt_log2_self
theorem blen_le {n k : Nat} (h : n < 2 ^ k) : blen n ≤ k := by
  unfold blen
  split
  · omega
  · rename_i h0
    have := (Nat.log2_lt h0).2 h
    omega
theorem blen_ge {n k : Nat} (h : 2 ^ k ≤ n) : k + 1 ≤ blen n := by
  have h0 : n ≠ 0 := by have := Nat.two_pow_pos k; omega
  unfold blen
  rw [if_neg h0]
  have := (Nat.le_log2 h0).2 h
  omega
theorem blen_unique {n k : Nat} (h : n < 2 ^ (k + 1)) (h' : 2 ^ k ≤ n) : blen n = k + 1 := by
  have := blen_le h; have := blen_ge h'; omega
theorem blen_zero : blen 0 = 0 := rfl
theorem blen_pos {n : Nat} (h : 0 < n) : 0 < blen n := by unfold blen; rw [if_neg (by omega)]; omega
theorem blen_self {n : Nat} (h : 0 < n) : 2 ^ (blen n - 1) ≤ n := by
  unfold blen; rw [if_neg (by omega)]; exact Nat.log2_self_le (by omega)
theorem blen_half {n : Nat} (h : 0 < n) : blen n = blen (n / 2) + 1 := by
  rcases Nat.lt_or_ge n 2 with h1 | h1
  · have : n = 1 := by omega
    subst this; decide
  · have a := blen_self (n := n / 2) (by omega)
    have b := blen_lt (n / 2)
    have p := blen_pos (n := n / 2) (by omega)
    apply blen_unique
    · rw [Nat.pow_succ]; omega
    · have : 2 ^ blen (n / 2) = 2 ^ (blen (n / 2) - 1) * 2 := by rw [← Nat.pow_succ]; congr 1; omega
      omega
theorem blen_shr {n k : Nat} (h : n / 2 ^ k ≠ 0) : blen n = blen (n / 2 ^ k) + k := by
  induction k generalizing n with
  | zero => simp
  | succ k ih =>
    have e : n / 2 ^ (k + 1) = (n / 2) / 2 ^ k := by rw [Nat.pow_succ, Nat.mul_comm, Nat.div_div_eq_div_mul]
    rw [e] at h ⊢
    have h2 : 0 < n := by
      rcases Nat.eq_zero_or_pos n with rfl | h
      · simp at h
      · exact h
    rw [blen_half h2, ih h]
    omega
/-- where the bisection of a bit length stands: m is left, k bits are counted, t is the next step -/
def LenAt (n m k t : Nat) : Prop := (blen m + k = blen n ∧ blen n ≤ 64) ∧ (t = 32 ∧ m < 2 ^ 64 ∨ t = 16 ∧ m < 2 ^ 32 ∨ t = 8 ∧ m < 2 ^ 16 ∨ t = 4 ∧ m < 2 ^ 8 ∨ t = 2 ∧ m < 2 ^ 4 ∨ t = 1 ∧ m < 2 ^ 2 ∨ t = 0 ∧ m < 2)
theorem lenAt_0 {n : Nat} (h : n < 2 ^ 64) : LenAt n n 0 32 := ⟨⟨rfl, blen_le h⟩, .inl ⟨rfl, h⟩⟩
theorem lenAt_end {n m k : Nat} (h : LenAt n m k 0) : (k : Int) + (m : Int) = (blen n : Int) := by
  obtain ⟨⟨h1, _⟩, h2⟩ := h
  have hm : m < 2 := by omega
  have : blen m = m := by
    rcases (show m = 0 ∨ m = 1 by omega) with rfl | rfl <;> decide
  omega
theorem lenAt_no {n m k t : Nat} (h : LenAt n m k t) (h0 : t ≠ 0) (hd : m / 2 ^ t = 0) : LenAt n m k (t / 2) := by
  obtain ⟨h1, h2⟩ := h
  refine ⟨h1, ?_⟩
  have hl : m < 2 ^ t := by
    rcases Nat.lt_or_ge m (2 ^ t) with h | h
    · exact h
    · have := Nat.div_pos h (Nat.two_pow_pos t); omega
  rcases h2 with ⟨rfl, _⟩ | ⟨rfl, _⟩ | ⟨rfl, _⟩ | ⟨rfl, _⟩ | ⟨rfl, _⟩ | ⟨rfl, _⟩ | ⟨rfl, _⟩
  all_goals simp at hl h0 ⊢; try omega
theorem lenAt_yes {n m k t : Nat} (h : LenAt n m k t) (h0 : t ≠ 0) (hd : m / 2 ^ t ≠ 0) : LenAt n (m / 2 ^ t) (k + t) (t / 2) := by
  obtain ⟨⟨h1, h3⟩, h2⟩ := h
  refine ⟨⟨by have := blen_shr hd; omega, h3⟩, ?_⟩
  rcases h2 with ⟨rfl, _⟩ | ⟨rfl, _⟩ | ⟨rfl, _⟩ | ⟨rfl, _⟩ | ⟨rfl, _⟩ | ⟨rfl, _⟩ | ⟨rfl, _⟩
  all_goals simp at h0 ⊢; try omega
theorem bit_of (m j : Nat) (hm : U m) : bits BinOp.and IntKind.u64 ((m : Int) / 2 ^ j) 1 = ((m / 2 ^ j % 2 : Nat) : Int) := by
  have e : (m : Int) / 2 ^ j = ((m / 2 ^ j : Nat) : Int) := by push_cast; rfl
  have hle : m / 2 ^ j ≤ m := Nat.div_le_self _ _
  rw [e]
  generalize m / 2 ^ j = q at *
  rw [and1 (by unfold U at *; omega)]
  push_cast
  rfl
/-! ### a quotient by halves: the estimate from the divisor's upper half -/
def dhq (r x d : Nat) : Int := (((r * 4294967296 + x) / d : Nat) : Int)
def dhr (r x d : Nat) : Int := (((r * 4294967296 + x) % d : Nat) : Int)
/-- where the estimate q stands; s is what is left of r -/
def DhAt (r x d1 d0 q s : Nat) : Prop := q * d1 + s = r ∧ (r * 4294967296 + x) / (d1 * 4294967296 + d0) ≤ q ∧ q ≤ 4294967297 ∧ s < 4294967296
theorem dhAt_0 {r x d1 d0 : Nat} (hx : x < 4294967296) (h1 : 2147483648 ≤ d1) (h1' : d1 < 4294967296) (h0 : d0 < 4294967296) (hr : r < d1 * 4294967296 + d0) :
    DhAt r x d1 d0 (r / d1) (r % d1) := by
  have hm : r % d1 < d1 := Nat.mod_lt _ (by omega)
  have e := Nat.div_add_mod r d1
  refine ⟨by rw [Nat.mul_comm]; exact e, ?_, ?_, by omega⟩
  · rw [Nat.div_le_iff_le_mul (by omega)]
    have : (r / d1 + 1) * (d1 * 4294967296 + d0) = d1 * (r / d1) * 4294967296 + d1 * 4294967296 + (r / d1 + 1) * d0 := by grind
    have h9 : r / d1 * (d1 * 4294967296 + d0) = d1 * (r / d1) * 4294967296 + (r / d1) * d0 := by grind
    generalize d1 * (r / d1) = p at *
    generalize (r / d1) * d0 = p' at *
    omega
  · have : r / d1 < 4294967298 := by
      rw [Nat.div_lt_iff_lt_mul (by omega)]
      omega
    omega
theorem dhAt_prod {r x d1 d0 q s : Nat} (h0 : d0 < 4294967296) (H : DhAt r x d1 d0 q s) : q * d0 ≤ 18446744073709551615 := by
  obtain ⟨_, _, h, _⟩ := H
  have : q * d0 ≤ 4294967297 * 4294967295 := Nat.mul_le_mul h (by omega)
  omega
theorem dh_cmp {r x d1 d0 q s : Nat} (e : q * d1 + s = r) : q * (d1 * 4294967296 + d0) + s * 4294967296 = r * 4294967296 + q * d0 := by
  rw [← e]; grind
theorem dhAt_stop {r x d1 d0 q s : Nat} (h1 : 2147483648 ≤ d1) (H : DhAt r x d1 d0 q s) (h : q * d0 ≤ s * 4294967296 + x) : q = (r * 4294967296 + x) / (d1 * 4294967296 + d0) := by
  obtain ⟨e, h2, _, _⟩ := H
  have c := dh_cmp (x := x) (d0 := d0) e
  refine Nat.le_antisymm ?_ h2
  rw [Nat.le_div_iff_mul_le (by omega)]
  omega
theorem dhAt_next {r x d1 d0 q s : Nat} (h1 : 2147483648 ≤ d1) (H : DhAt r x d1 d0 q s) (h : s * 4294967296 + x < q * d0) :
    0 < q ∧ (q - 1) * d1 + (s + d1) = r ∧ (r * 4294967296 + x) / (d1 * 4294967296 + d0) ≤ q - 1 ∧ q - 1 ≤ 4294967296 := by
  obtain ⟨e, h2, h3, _⟩ := H
  have c := dh_cmp (x := x) (d0 := d0) e
  have hq : 0 < q := by
    rcases Nat.eq_zero_or_pos q with rfl | h9
    · rw [Nat.zero_mul] at h; omega
    · exact h9
  have : (r * 4294967296 + x) / (d1 * 4294967296 + d0) < q := by
    rw [Nat.div_lt_iff_lt_mul (by omega)]
    apply Nat.lt_of_add_lt_add_right (n := s * 4294967296)
    rw [c, Nat.add_assoc]
    exact Nat.add_lt_add_left (by rw [Nat.add_comm]; exact h) _
  refine ⟨hq, ?_, by omega, by omega⟩
  obtain ⟨q', rfl⟩ : ∃ q', q = q' + 1 := ⟨q - 1, by omega⟩
  have : (q' + 1) * d1 = q' * d1 + d1 := by grind
  simp only [Nat.add_sub_cancel]
  omega
theorem dhAt_more {r x d1 d0 q s : Nat} (h1 : 2147483648 ≤ d1) (H : DhAt r x d1 d0 q s) (h : s * 4294967296 + x < q * d0) (hs : s + d1 < 4294967296) : DhAt r x d1 d0 (q - 1) (s + d1) := by
  obtain ⟨_, a, b, c⟩ := dhAt_next h1 H h
  exact ⟨a, b, by omega, hs⟩
theorem dhAt_break {r x d1 d0 q s : Nat} (h1 : 2147483648 ≤ d1) (h0 : d0 < 4294967296) (H : DhAt r x d1 d0 q s) (h : s * 4294967296 + x < q * d0) (hs : 4294967296 ≤ s + d1) : q - 1 = (r * 4294967296 + x) / (d1 * 4294967296 + d0) := by
  obtain ⟨_, e, b, c⟩ := dhAt_next h1 H h
  have c' := dh_cmp (x := x) (d0 := d0) e
  have : (q - 1) * d0 ≤ 4294967296 * 4294967296 := Nat.mul_le_mul c (by omega)
  refine Nat.le_antisymm ?_ b
  rw [Nat.le_div_iff_mul_le (by omega)]
  omega
theorem dh_rest {r x d : Nat} (hd : d < 18446744073709551616) (h0 : 0 < d) :
    IntKind.u64.wrap (IntKind.u64.wrap (IntKind.u64.wrap ((r : Int) * 4294967296) + x) - IntKind.u64.wrap (dhq r x d * d)) = dhr r x d := by
  unfold dhq dhr
  have e := Nat.div_add_mod (r * 4294967296 + x) d
  have hm := Nat.mod_lt (r * 4294967296 + x) h0
  have e2 : (((r * 4294967296 + x) / d : Nat) : Int) * d = ((d * ((r * 4294967296 + x) / d) : Nat) : Int) := by rw [Int.mul_comm, Int.natCast_mul]
  rw [e2]
  generalize d * ((r * 4294967296 + x) / d) = p at *
  generalize (r * 4294967296 + x) % d = m at *
  simp only [wrapU]
  omega
/-! ### the divisor shifted till its highest bit is set -/
theorem pow_split {s : Nat} (hs : s ≤ 64) : 2 ^ s * 2 ^ (64 - s) = 18446744073709551616 := by
  rw [← Nat.pow_add, show s + (64 - s) = 64 by omega]
theorem norm_facts {H L D s : Nat} (hHD : H < D) (hL : L < 18446744073709551616) (hD : D < 18446744073709551616) (hs : blen D + s = 64) :
    D * 2 ^ s < 18446744073709551616 ∧ 9223372036854775808 ≤ D * 2 ^ s ∧ H * 2 ^ s + L / 2 ^ (64 - s) < D * 2 ^ s ∧ L / 2 ^ (64 - s) < 2 ^ s ∧
    (H * 18446744073709551616 + L) * 2 ^ s = (H * 2 ^ s + L / 2 ^ (64 - s)) * 18446744073709551616 + L * 2 ^ s % 18446744073709551616 := by
  have hp := pow_split (s := s) (by omega)
  have p0 : 0 < 2 ^ s := Nat.two_pow_pos s
  have q0 : 0 < 2 ^ (64 - s) := Nat.two_pow_pos _
  have hb : D < 2 ^ (64 - s) := by have := blen_lt D; rwa [show blen D = 64 - s by omega] at this
  have hb2 : 2 ^ (63 - s) ≤ D := by have := blen_self (n := D) (by omega); rwa [show blen D - 1 = 63 - s by omega] at this
  have hh : 2 ^ s * 2 ^ (63 - s) = 9223372036854775808 := by rw [← Nat.pow_add, show s + (63 - s) = 63 by have := blen_pos (n := D) (by omega); omega]
  have hl : L / 2 ^ (64 - s) < 2 ^ s := by rw [Nat.div_lt_iff_lt_mul q0]; rw [hp]; exact hL
  have e1 : D * 2 ^ s < 2 ^ (64 - s) * 2 ^ s := Nat.mul_lt_mul_of_pos_right hb p0
  have e2 : 2 ^ (63 - s) * 2 ^ s ≤ D * 2 ^ s := Nat.mul_le_mul_right _ hb2
  have e3 : (H + 1) * 2 ^ s ≤ D * 2 ^ s := Nat.mul_le_mul_right _ hHD
  have e4 : (H + 1) * 2 ^ s = H * 2 ^ s + 2 ^ s := by grind
  refine ⟨by rw [Nat.mul_comm (2 ^ (64 - s)), hp] at e1; exact e1, by rw [Nat.mul_comm (2 ^ (63 - s)), hh] at e2; exact e2, by omega, hl, ?_⟩
  have e5 : L * 2 ^ s / 18446744073709551616 = L / 2 ^ (64 - s) := by
    rw [← hp, Nat.mul_comm (2 ^ s), Nat.mul_div_mul_right _ _ p0]
  have e6 := Nat.div_add_mod (L * 2 ^ s) 18446744073709551616
  rw [e5] at e6
  grind
theorem norm_quot {N D P T M : Nat} (hP : 0 < P) (hD : 0 < D * P) (hT : T < D * P) (e : N * P = T * 18446744073709551616 + M) (hM : M < 18446744073709551616) {q1 r1 q0 r0 : Nat}
    (h1 : q1 = (T * 4294967296 + M / 4294967296) / (D * P)) (h2 : r1 = (T * 4294967296 + M / 4294967296) % (D * P)) (h3 : q0 = (r1 * 4294967296 + M % 4294967296) / (D * P)) (h4 : r0 = (r1 * 4294967296 + M % 4294967296) % (D * P)) :
    q1 < 4294967296 ∧ q0 < 4294967296 ∧ r1 < D * P ∧ r0 < D * P ∧ q1 * 4294967296 + q0 = N / D ∧ r0 / P = N % D := by
  have d1 := Nat.div_add_mod (T * 4294967296 + M / 4294967296) (D * P)
  have d0 := Nat.div_add_mod (r1 * 4294967296 + M % 4294967296) (D * P)
  have l1 : r1 < D * P := by rw [h2]; exact Nat.mod_lt _ hD
  have l0 : r0 < D * P := by rw [h4]; exact Nat.mod_lt _ hD
  have b1 : q1 < 4294967296 := by
    rw [h1, Nat.div_lt_iff_lt_mul hD]
    have : (T + 1) * 4294967296 ≤ D * P * 4294967296 := Nat.mul_le_mul_right _ hT
    rw [Nat.mul_comm 4294967296 (D * P)]
    omega
  have b0 : q0 < 4294967296 := by
    rw [h3, Nat.div_lt_iff_lt_mul hD]
    have : (r1 + 1) * 4294967296 ≤ D * P * 4294967296 := Nat.mul_le_mul_right _ l1
    rw [Nat.mul_comm 4294967296 (D * P)]
    omega
  rw [← h1, ← h2] at d1
  rw [← h3, ← h4] at d0
  have k : N * P = (D * P) * (q1 * 4294967296 + q0) + r0 := by
    have m : M = M / 4294967296 * 4294967296 + M % 4294967296 := by omega
    generalize M / 4294967296 = m1 at *
    generalize M % 4294967296 = m0 at *
    grind
  have kq : (N * P) / (D * P) = q1 * 4294967296 + q0 := by rw [k, Nat.mul_add_div hD, Nat.div_eq_of_lt l0, Nat.add_zero]
  have kr : (N * P) % (D * P) = r0 := by rw [k, Nat.mul_add_mod, Nat.mod_eq_of_lt l0]
  rw [Nat.mul_div_mul_right _ _ hP] at kq
  rw [Nat.mul_mod_mul_right] at kr
  exact ⟨b1, b0, l1, l0, kq.symm, by rw [← kr, Nat.mul_div_cancel _ hP]⟩
theorem cast_shl (n s : Nat) : (n : Int) * 2 ^ s = ((n * 2 ^ s : Nat) : Int) := by rw [Int.natCast_mul, Int.natCast_pow]; rfl
theorem cast_shr (n s : Nat) : (n : Int) / 2 ^ s = ((n / 2 ^ s : Nat) : Int) := by rw [Int.natCast_ediv, Int.natCast_pow]; rfl
theorem shl_or (a b s : Nat) (ha : a < 18446744073709551616) (h0 : a % 2 ^ s = 0) (hb : b < 2 ^ s) (hb' : b < 18446744073709551616) :
    bits BinOp.or IntKind.u64 (IntKind.u64.wrap (a : Int)) (b : Int) = ((a + b : Nat) : Int) := by
  rw [wrapU_lo, lo_U (by unfold U; omega), or_join s (by unfold U; omega) (by rw [← Int.natCast_emod, h0]; rfl) (by omega) (by omega) (by unfold U; omega), Int.natCast_add]
theorem or32n {q1 q0 : Nat} (h1 : q1 < 4294967296) (h0 : q0 < 4294967296) : bits BinOp.or IntKind.u64 ((q1 : Int) * 4294967296) (q0 : Int) = ((q1 * 4294967296 + q0 : Nat) : Int) := by
  rw [or32 (by unfold U; omega) (by omega) (by omega) (by omega)]; omega
theorem div_setup {H L D : Nat} (hHD : H < D) (hL : L < 18446744073709551616) (hD : D < 18446744073709551616) : ∃ s D' T M M1 M0 Q1 R1 Q0 R0 : Nat,
    ((64 : Int) - (blen D : Int) = (s : Int) ∧ s ≤ 64 ∧ D' < 18446744073709551616 ∧ 9223372036854775808 ≤ D' ∧ T < D' ∧ R1 < D' ∧ R0 < D' ∧ M1 < 4294967296 ∧ M0 < 4294967296 ∧ Q1 < 4294967296 ∧ Q0 < 4294967296) ∧
    IntKind.u64.wrap ((D : Int) * 2 ^ s) = (D' : Int) ∧
    bits BinOp.or IntKind.u64 (IntKind.u64.wrap ((H : Int) * 2 ^ s)) ((L : Int) / 2 ^ (64 - s)) = (T : Int) ∧
    IntKind.u64.wrap ((L : Int) * 2 ^ s) = (M : Int) ∧
    (M : Int) / 4294967296 = (M1 : Int) ∧ bits BinOp.and IntKind.u64 (M : Int) 4294967295 = (M0 : Int) ∧
    dhq T M1 D' = (Q1 : Int) ∧ dhr T M1 D' = (R1 : Int) ∧ dhq R1 M0 D' = (Q0 : Int) ∧ dhr R1 M0 D' = (R0 : Int) ∧
    bits BinOp.or IntKind.u64 ((Q1 : Int) * 4294967296) (Q0 : Int) = ((H : Int) * 18446744073709551616 + L) / D ∧ (R0 : Int) / 2 ^ s = ((H : Int) * 18446744073709551616 + L) % D := by
  obtain ⟨s, hs⟩ : ∃ s, blen D + s = 64 := ⟨64 - blen D, by have : blen D ≤ 64 := blen_le hD; omega⟩
  obtain ⟨f1, f2, f3, f4, f5⟩ := norm_facts hHD hL hD hs
  have p0 : 0 < 2 ^ s := Nat.two_pow_pos s
  have hM' : L * 2 ^ s % 18446744073709551616 < 18446744073709551616 := Nat.mod_lt _ (by omega)
  have eM : IntKind.u64.wrap ((L : Int) * 2 ^ s) = ((L * 2 ^ s % 18446744073709551616 : Nat) : Int) := by
    rw [cast_shl, wrapU, Int.natCast_emod]; rfl
  have eT : bits BinOp.or IntKind.u64 (IntKind.u64.wrap ((H : Int) * 2 ^ s)) ((L : Int) / 2 ^ (64 - s)) = ((H * 2 ^ s + L / 2 ^ (64 - s) : Nat) : Int) := by
    rw [cast_shl, cast_shr]
    have hle : L / 2 ^ (64 - s) ≤ L := Nat.div_le_self _ _
    have h9 : H * 2 ^ s % 2 ^ s = 0 := Nat.mul_mod_left _ _
    generalize H * 2 ^ s = a at *
    generalize L / 2 ^ (64 - s) = b at *
    exact shl_or a b s (by omega) h9 f4 (by omega)
  have eD : IntKind.u64.wrap ((D : Int) * 2 ^ s) = ((D * 2 ^ s : Nat) : Int) := by
    rw [cast_shl, wrapU_lo, lo_U]; unfold U; generalize D * 2 ^ s = a at *; omega
  obtain ⟨g1, g2, g3, g4, g5, g6⟩ := norm_quot (N := H * 18446744073709551616 + L) p0 (by generalize D * 2 ^ s = a at *; omega) f3 f5 hM' rfl rfl rfl rfl
  refine ⟨s, D * 2 ^ s, H * 2 ^ s + L / 2 ^ (64 - s), L * 2 ^ s % 18446744073709551616, _, _, _, _, _, _, ⟨by omega, by omega, f1, f2, f3, g3, g4, ?_, ?_, g1, g2⟩, eD, eT, eM, ?_, ?_, rfl, rfl, rfl, rfl, ?_, ?_⟩
  · generalize L * 2 ^ s % 18446744073709551616 = M at *; omega
  · generalize L * 2 ^ s % 18446744073709551616 = M at *; omega
  · rw [Int.natCast_ediv]; rfl
  · rw [and32 (by unfold U; generalize L * 2 ^ s % 18446744073709551616 = M at *; omega), Int.natCast_emod]; rfl
  · have : ((H : Int) * 18446744073709551616 + L) / D = (((H * 18446744073709551616 + L) / D : Nat) : Int) := by rw [Int.natCast_ediv, Int.natCast_add, Int.natCast_mul]; rfl
    rw [this, ← g5]
    exact or32n g1 g2
  · have : ((H : Int) * 18446744073709551616 + L) % D = (((H * 18446744073709551616 + L) % D : Nat) : Int) := by rw [Int.natCast_emod, Int.natCast_add, Int.natCast_mul]; rfl
    rw [this, ← g6, cast_shr]
/-! ### what was added is taken away again; a quotient times the divisor, and what is left -/
end Go.Proofs.YthpbaaanbimapaaGreatDoor

namespace Go.Proofs.YthpbaaanbimapaaGreatDoor
set_option maxRecDepth 100000
open Go.RowKit
set_option linter.unusedVariables false
set_option linter.unusedSimpArgs false

set_option maxHeartbeats 400000 in
theorem below_any (a b : Int) (w : World) :
    Calls Tryz.prog 238 #[.int .u64 a, .int .u64 b] w fun e w' => e = .returned (.int .u64 (bel a b)) ∧ w = w' := by
  by_cases h : a < b
  · go_enter Tryz.func238, Tryz.ntmps238
    go_wp2
    go_ret
    exact ⟨by simp [bel, h], rfl⟩
  · go_enter Tryz.func238, Tryz.ntmps238
    go_wp2
    go_ret
    exact ⟨by simp [bel, h], rfl⟩

set_option maxHeartbeats 400000 in
theorem limb_add (a b c : Int) (ha : U a) (hb : U b) (hc : U c) (w : World) :
    Calls Tryz.prog 208 #[.int .u64 a, .int .u64 b, .int .u64 c] w fun e w' => e = .returned (.tuple #[.int .u64 (lo64 (a + b + c)), .int .u64 (hi64 (a + b + c))]) ∧ w = w' := by
  go_enter Tryz.func208, Tryz.ntmps208
  go_wp2_with (go_at_call 238; refine (below_any _ _ _).mono ?_; rintro e w' ⟨rfl, rfl⟩)
  go_ret2
  exact ⟨ret2 (add_lo a b c) (add_hi ha hb hc), rfl⟩

set_option maxHeartbeats 400000 in
theorem limb_sub (a b c : Int) (ha : U a) (hb : U b) (hc : U c) (w : World) :
    Calls Tryz.prog 237 #[.int .u64 a, .int .u64 b, .int .u64 c] w fun e w' => e = .returned (.tuple #[.int .u64 (lo64 (a - b - c)), .int .u64 (bor (a - b - c))]) ∧ w = w' := by
  go_enter Tryz.func237, Tryz.ntmps237
  go_wp2_with (go_at_call 238; refine (below_any _ _ _).mono ?_; rintro e w' ⟨rfl, rfl⟩)
  go_ret2
  exact ⟨ret2 (sub_lo a b c) (sub_hi ha hb hc), rfl⟩

set_option maxHeartbeats 400000 in
theorem limb_mul (a b : Int) (ha : U a) (hb : U b) (w : World) :
    Calls Tryz.prog 223 #[.int .u64 a, .int .u64 b] w fun e w' => e = .returned (.tuple #[.int .u64 (hi64 (a * b)), .int .u64 (lo64 (a * b))]) ∧ w = w' := by
  go_enter Tryz.func223, Tryz.ntmps223
  go_wp2
  go_ret2
  exact ⟨ret2 (mul_hi ha hb) (mul_lo ha hb), rfl⟩

set_option maxHeartbeats 400000 in
theorem ref_len (x : Int) (hx : U x) (w : World) :
    Calls Tryz.prog 160 #[.int .u64 x] w fun e w' => e = .returned (.int .i64 (blen x.toNat)) ∧ w = w' := by
  obtain ⟨n, rfl⟩ := Int.eq_ofNat_of_zero_le hx.nn
  have hb : blen n ≤ 64 := blen_le (by unfold U at hx; omega)
  go_enter Tryz.func160, Tryz.ntmps160
  go_wp2
  go_loop [0, 3] (fun x i => ∃ m k : Nat, x = .int .u64 m ∧ i = .int .i64 k ∧ blen m + k = blen n) (fun x _ => (intOf x).toNat)
  case atStart => exact ⟨n, 0, rfl, rfl, rfl⟩
  case round =>
    obtain ⟨m, k, rfl, rfl, hk⟩ := hrel
    have hk' : k ≤ 64 := by omega
    have H := Lib.hid hk
    clear hk
    by_cases h0 : 0 < m
    · have hh := Lib.hid (blen_half h0)
      go_wp2
      go_round
      case rel => exact ⟨m / 2, k + 1, by go_num, by go_num, by have := H.out; have := hh.out; omega⟩
      case measure => simp [intOf]; omega
    · obtain rfl : m = 0 := by omega
      go_wp2
      go_ret
      exact ⟨ret1 (by have h9 := H.out; have h8 := blen_zero; omega), rfl⟩

set_option maxHeartbeats 400000 in
theorem limb_len (x : Int) (hx : U x) (w : World) :
    Calls Tryz.prog 141 #[.int .u64 x] w fun e w' => e = .returned (.int .i64 (blen x.toNat)) ∧ w = w' := by
  obtain ⟨n, rfl⟩ := Int.eq_ofNat_of_zero_le hx.nn
  have hn : n < 2 ^ 64 := by unfold U at hx; omega
  have hb : blen n ≤ 64 := blen_le hn
  go_enter Tryz.func141, Tryz.ntmps141
  go_wp2
  go_loop [0, 3, 4] (fun x i s => ∃ m k t : Nat, x = .int .u64 m ∧ i = .int .i64 k ∧ s = .int .i64 t ∧ LenAt n m k t) (fun _ _ s => (intOf s).toNat)
  case atStart => exact ⟨n, 0, 32, rfl, rfl, rfl, lenAt_0 hn⟩
  case round =>
    obtain ⟨m, k, t, rfl, rfl, rfl, hk⟩ := hrel
    have hk' : k ≤ 64 := by have := hk.1; omega
    have ht := hk.2
    by_cases h0 : t = 0
    · subst h0
      go_wp2
      go_ret
      exact ⟨ret1 (lenAt_end hk), rfl⟩
    · have h3 : t = 32 ∨ t = 16 ∨ t = 8 ∨ t = 4 ∨ t = 2 ∨ t = 1 := by omega
      by_cases hd : m / 2 ^ t = 0
      · have L := lenAt_no hk h0 hd
        clear ht
        rcases h3 with rfl | rfl | rfl | rfl | rfl | rfl
        all_goals
          simp only [Nat.reducePow] at hd
          go_wp2
          go_round
          case rel => exact ⟨_, _, _, rfl, rfl, by go_num, L⟩
          case measure => simp [intOf]
      · have L := lenAt_yes hk h0 hd
        clear ht
        rcases h3 with rfl | rfl | rfl | rfl | rfl | rfl
        all_goals
          simp only [Nat.reducePow] at hd
          go_wp2
          go_round
          case rel => exact ⟨_, _, _, by go_num, by go_num, by go_num, L⟩
          case measure => simp [intOf]

end Go.Proofs.YthpbaaanbimapaaGreatDoor

namespace Go.Proofs.YthpbaaanbimapaaGreatDoor
set_option maxRecDepth 100000
open Go.RowKit
set_option linter.unusedVariables false
set_option linter.unusedSimpArgs false

/-- the slice value '.slice A n c' reads, in w, as the list xs of words -/
def Sl (w : World) (A : Option Addr) (n c : Nat) (xs : List Int) : Prop :=
  (xs.length = n ∧ n ≤ c ∧ ∀ x ∈ xs, U x) ∧ (0 < n → ∃ b off, A = some ⟨b, off, none⟩ ∧ b < w.heap.size ∧ ∀ j, j < n → w.cell? ⟨b, off + j, none⟩ = some (.int .u64 (xs.getD j 0)))

theorem Sl.len {w : World} {A : Option Addr} {n c : Nat} {xs : List Int} (h : Sl w A n c xs) : n = xs.length := h.1.1.symm
theorem Sl.cap {w : World} {A : Option Addr} {n c : Nat} {xs : List Int} (h : Sl w A n c xs) : n ≤ c := h.1.2.1
theorem Sl.us {w : World} {A : Option Addr} {n c : Nat} {xs : List Int} (h : Sl w A n c xs) : ∀ x ∈ xs, U x := h.1.2.2
theorem Sl.u {w : World} {A : Option Addr} {n c : Nat} {xs : List Int} (h : Sl w A n c xs) (j : Nat) : U (xs.getD j 0) := by
  by_cases hj : j < xs.length
  · rw [List.getD_eq_getElem?_getD, List.getElem?_eq_getElem hj]
    exact h.us _ (List.getElem_mem hj)
  · rw [List.getD_eq_getElem?_getD, List.getElem?_eq_none (by omega)]
    exact U_0
theorem Sl.at_ {w : World} {A : Option Addr} {n c k : Nat} {xs : List Int} (h : Sl w A n c xs) (hk : k < n) :
    ∃ b off, A = some ⟨b, off, none⟩ ∧ b < w.heap.size ∧ ∀ j, j < n → w.cell? ⟨b, off + j, none⟩ = some (.int .u64 (xs.getD j 0)) := h.2 (by omega)
theorem Sl.below {w w' : World} {A : Option Addr} {n c : Nat} {xs : List Int} (h : Sl w A n c xs) (hb : Below w.heap.size w w') : Sl w' A n c xs := by
  refine ⟨h.1, fun h0 => ?_⟩
  obtain ⟨b, off, e, hlt, hc⟩ := h.2 h0
  exact ⟨b, off, e, Nat.lt_of_lt_of_le hlt hb.size, fun j hj => (hb.cell (p := ⟨b, off + j, none⟩) hlt).trans (hc j hj)⟩
theorem Sl.drewN {w : World} {A : Option Addr} {n c : Nat} {xs : List Int} (h : Sl w A n c xs) (k : Nat) : Sl (w.drewN k) A n c xs := h
theorem Sl.nil (w : World) (A : Option Addr) (c : Nat) : Sl w A 0 c [] := ⟨⟨rfl, Nat.zero_le _, by simp⟩, fun h => absurd h (by omega)⟩
theorem Sl.take {w : World} {A : Option Addr} {n c k : Nat} {xs : List Int} (h : Sl w A n c xs) (hk : k ≤ n) : Sl w A k c (xs.take k) := by
  refine ⟨⟨by rw [List.length_take, h.1.1]; omega, by have := h.cap; omega, fun x hx => h.us x (List.mem_of_mem_take hx)⟩, fun h0 => ?_⟩
  obtain ⟨b, off, e, hlt, hc⟩ := h.2 (by omega)
  refine ⟨b, off, e, hlt, fun j hj => ?_⟩
  rw [hc j (by omega)]
  simp [List.getD_eq_getElem?_getD, List.getElem?_take, hj]

/-- block g of w is just the words zs, none frozen; t is the number of the type uint64 -/
def Row (t : TypeId) (w : World) (g : Nat) (zs : List Int) : Prop := w.heap[g]? = some (.cells (zs.map (Value.int .u64)).toArray t (0, 0))
section
variable {t : TypeId} {w w' : World} {g : Nat} {zs : List Int}
theorem Row.lt (h : Row t w g zs) : g < w.heap.size := by
  rcases Nat.lt_or_ge g w.heap.size with hlt | hge
  · exact hlt
  · unfold Row at h; rw [Array.getElem?_eq_none hge] at h; cases h
theorem Row.cell (h : Row t w g zs) {i : Nat} (hi : i < zs.length) : w.cell? ⟨g, i, none⟩ = some (.int .u64 (zs.getD i 0)) := by
  rw [cell_of_row w g i _ t (0, 0) h]
  simp [List.getD_eq_getElem?_getD, List.getElem?_eq_getElem hi]
theorem Row.free (h : Row t w g zs) (i : Nat) : w.frozen? ⟨g, i, none⟩ = false := by
  unfold Row at h
  simp [World.frozen?, h]
theorem Row.set (h : Row t w g zs) (i : Nat) (u : Int) : Row t (w.setCell ⟨g, i, none⟩ (.int .u64 u)) g (zs.set i u) := by
  unfold Row at h ⊢
  simp [World.setCell, Array.getElem?_modify, h, List.map_set]
theorem Row.drewN (h : Row t w g zs) (k : Nat) : Row t (w.drewN k) g zs := h
theorem Row.drew (h : Row t w g zs) : Row t w.drew g zs := h
theorem Row.below {B : Nat} (h : Row t w g zs) (hb : Below B w w') (hg : g < B) : Row t w' g zs := (hb.block g hg).trans h
theorem Row.new (w : World) (t : TypeId) (n : Nat) : Row t (w.alloc (.cells (madeCells #[.int .u64 0] n) t)) w.heap.size (List.replicate n 0) := by
  have e : madeCells #[.int .u64 0] n = ((List.replicate n (0 : Int)).map (Value.int .u64)).toArray := by
    apply Array.toList_inj.1
    rw [toList_madeCells_one]
    simp
  unfold Row
  rw [e]
  exact heap_alloc_new w _
theorem Row.lit (w : World) (t : TypeId) (zs : List Int) : Row t (w.alloc (.cells (zs.map (Value.int .u64)).toArray t)) w.heap.size zs := heap_alloc_new w _
theorem Row.sl {c : Nat} (h : Row t w g zs) (hu : ∀ x ∈ zs, U x) (hc : zs.length ≤ c) : Sl w (some ⟨g, 0, none⟩) zs.length c zs :=
  ⟨⟨rfl, hc, hu⟩, fun _ => ⟨g, 0, rfl, h.lt, fun j hj => by rw [Nat.zero_add]; exact h.cell hj⟩⟩
end
/-- what append's laws own is such a slice -/
theorem Sl.of_own {w : World} {base : Nat} {t : TypeId} {A : Option Addr} {n c : Nat} {zs : List Int} (h : w.ownsRow base t 1 (.slice A n c) n (zs.map (Value.int .u64))) (hu : ∀ x ∈ zs, U x) : Sl w A n c zs := by
  have hl : zs.length = n := by have := h.1; simpa using this
  obtain ⟨h1, h2⟩ := h
  rcases h2 with ⟨hv, hz⟩ | ⟨g, cap, cur, hv, _, hh, hnc, r⟩
  · injection hv with ha hb hc
    subst ha hb hc
    exact ⟨⟨hl, Nat.le_refl _, hu⟩, fun h => absurd h (by omega)⟩
  · have own : w.ownsRow base t 1 (.slice A n c) n (zs.map (Value.int .u64)) := ⟨h1, .inr ⟨g, cap, cur, hv, ‹_›, hh, hnc, r⟩⟩
    injection hv with ha _ hc
    subst ha hc
    have hlt : g < w.heap.size := (own.lt g rfl).2
    refine ⟨⟨hl, hnc, hu⟩, fun _ => ⟨g, 0, rfl, hlt, fun j hj => ?_⟩⟩
    rw [Nat.zero_add, own.cellAt j (by omega)]
    simp [List.getD_eq_getElem?_getD, List.getElem?_eq_getElem (show j < zs.length by omega)]

/-- a call that returns a slice that reads as xs, and turns nothing that was there -/
def RetSl (xs : List Int) (w : World) (e : Ending) (w' : World) : Prop := ∃ A n c, e = .returned (.slice A n c) ∧ Sl w' A n c xs ∧ Below w.heap.size w w'

theorem below_drewN (w : World) (n : Nat) : Below w.heap.size w (w.drewN n) := ⟨rfl, rfl, rfl, Nat.le_refl _, fun _ _ => rfl⟩
theorem Below.drewN' {B : Nat} {a w : World} (h : Below B a w) (n : Nat) : Below B a (w.drewN n) := ⟨h.os, h.tape, h.output, h.size, h.block⟩

/-- the address lies in memory that was not there -/
def New (w : World) (A : Option Addr) : Prop := ∀ b off, A = some ⟨b, off, none⟩ → w.heap.size ≤ b
theorem New.some_ {w : World} {b off : Nat} (h : w.heap.size ≤ b) : New w (some ⟨b, off, none⟩) := by
  rintro b' off' e
  injection e with e
  injection e with e1
  omega
theorem New.none_ (w : World) : New w none := by rintro b off e; cases e
theorem New.mono {w w' : World} {A : Option Addr} (h : New w' A) (hs : w.heap.size ≤ w'.heap.size) : New w A := fun b off e => Nat.le_trans hs (h b off e)
/-- .. in new memory -/
def RetSlN (xs : List Int) (w : World) (e : Ending) (w' : World) : Prop := ∃ A n c, e = .returned (.slice A n c) ∧ Sl w' A n c xs ∧ Below w.heap.size w w' ∧ New w A
theorem RetSlN.old {xs : List Int} {w w' : World} {e : Ending} (h : RetSlN xs w e w') : RetSl xs w e w' := by
  obtain ⟨A, n, c, he, hs, hb, _⟩ := h
  exact ⟨A, n, c, he, hs, hb⟩

/-- a slice of integers that came in, as the row's frame tells it -/
def IsRow (k : IntKind) (w : World) (a : Option Addr) (len cap : Nat) (zs : List Int) : Prop :=
  (a = none ∧ len = 0 ∧ cap = 0 ∧ zs = []) ∨
  ∃ x, a = some x ∧ len ≤ cap ∧ cap ≤ maxLen ∧ zs.length = cap ∧ (∀ i, i < zs.length → w.cell? (x.add i) = some (.int k (zs.getD i 0))) ∧ ∀ n ∈ zs, (Lit.int k n).wf = true
theorem IsRow.sl {w : World} {a : Option Addr} {len cap : Nat} {zs : List Int} (h : IsRow .u64 w a len cap zs) : Sl w a len cap (zs.take len) ∧ len ≤ maxLen := by
  rcases h with ⟨rfl, rfl, rfl, rfl⟩ | ⟨x, rfl, hl, hm, hz, hcell, hwz⟩
  · exact ⟨Sl.nil _ _ _, by unfold maxLen; omega⟩
  · refine ⟨⟨⟨by rw [List.length_take]; omega, hl, fun y hy => U_of_wf (hwz y (List.mem_of_mem_take hy))⟩, fun h0 => ?_⟩, by omega⟩
    obtain ⟨b, off, spot⟩ := x
    have hc := hcell 0 (by omega)
    have hspot : spot = none := by simpa [Addr.add] using World.cell?_spot hc
    subst hspot
    have hlt : b < w.heap.size := by
      rcases Nat.lt_or_ge b w.heap.size with h9 | h9
      · exact h9
      · exfalso
        simp [Addr.add, World.cell?, Array.getElem?_eq_none h9] at hc
    refine ⟨b, off, rfl, hlt, fun j hj => ?_⟩
    have hcj := hcell j (by omega)
    have e : ((⟨b, off, none⟩ : Addr).add j) = ⟨b, off + j, none⟩ := by
      unfold Addr.add; split
      · subst_vars; rfl
      · rfl
    rw [e] at hcj
    rw [hcj]
    simp [List.getD_eq_getElem?_getD, List.getElem?_take, hj]

/-- the first k places are the same -/
def SameTo (xs ys : List Int) (k : Nat) : Prop := ∀ j, j < k → xs.getD j 0 = ys.getD j 0
theorem SameTo.step {xs ys : List Int} {k : Nat} (h : SameTo xs ys k) (h0 : xs.getD k 0 = ys.getD k 0) : SameTo xs ys (k + 1) := fun j hj => by
  rcases Nat.lt_or_ge j k with hl | hl
  · exact h j hl
  · rw [show j = k by omega]; exact h0
theorem SameTo.all {xs ys : List Int} (hl : xs.length = ys.length) (h : SameTo xs ys xs.length) : xs = ys := by
  apply List.ext_getElem hl
  intro i h1 h2
  have := h i h1
  simpa [List.getD_eq_getElem?_getD, h1, h2] using this

end Go.Proofs.YthpbaaanbimapaaGreatDoor

namespace Go.Proofs.YthpbaaanbimapaaGreatDoor
set_option maxRecDepth 100000
open Go.RowKit
set_option linter.unusedVariables false
set_option linter.unusedSimpArgs false

/-- an instruction: its kind, its operands, its number (a sign and two lists of words) -/
structure PI where
  op : Int
  a : Int
  b : Int
  q : Bool × List Int × List Int
def PI.nil : PI := ⟨0, 0, 0, (false, [], [])⟩
def arity (op : Int) : Int := if op = 1 ∨ op = 2 then 0 else if op = 3 ∨ (8 ≤ op ∧ op ≤ 10) then 1 else if 4 ≤ op ∧ op ≤ 7 then 2 else -1
def isForm (op : Int) : Bool := decide (8 ≤ op) && decide (op ≤ 10)
/-! ### which instructions are a program -/
/-- may an instruction stand behind n others? (vq: is its number a valid one; nq: is there none) -/
def fits (vq nq : Bool × List Int × List Int → Bool) (x : PI) (n : Nat) : Prop :=
  if x.op = 2 then x.a = 0 ∧ x.b = 0 ∧ vq x.q = true
  else nq x.q = true ∧ (if x.op = 1 then 0 ≤ x.a ∧ x.a < 65536 ∧ x.b = 0 else if arity x.op = 1 then 0 ≤ x.a ∧ x.a < n ∧ x.b = 0 else arity x.op = 2 ∧ 0 ≤ x.a ∧ x.a < n ∧ 0 ≤ x.b ∧ x.b < n)
def IsProg (vq nq : Bool × List Int × List Int → Bool) (l : List PI) : Prop := (∀ i, i < l.length → fits vq nq (l.getD i PI.nil) i) ∧ l.length ≤ 65536
theorem ar_cases (op : Int) : (arity op = 0 ∧ (op = 1 ∨ op = 2)) ∨ (arity op = 1 ∧ op ≠ 1 ∧ op ≠ 2) ∨ (arity op = 2 ∧ op ≠ 1 ∧ op ≠ 2) ∨ (arity op = -1 ∧ op ≠ 1 ∧ op ≠ 2) := by
  unfold arity
  by_cases h1 : op = 1 ∨ op = 2
  · rw [if_pos h1]; exact .inl ⟨rfl, h1⟩
  · rw [if_neg h1]
    split
    · exact .inr (.inl ⟨rfl, by omega, by omega⟩)
    · split
      · exact .inr (.inr (.inl ⟨rfl, by omega, by omega⟩))
      · exact .inr (.inr (.inr ⟨rfl, by omega, by omega⟩))
/-! ### counting -/
/-- how many of the first n instructions are so -/
def countTo (g : PI → Bool) (l : List PI) : Nat → Nat
  | 0 => 0
  | i + 1 => countTo g l i + (if g (l.getD i PI.nil) = true then 1 else 0)
/-! ### values, one after another; an error with its instruction's number -/
def evTo {V E : Type} (st : Nat → PI → List V → Except E V) (l : List PI) : Nat → Except (Nat × E) (List V)
  | 0 => .ok []
  | i + 1 => match evTo st l i with
    | .error e => .error e
    | .ok v => match st i (l.getD i PI.nil) v with
      | .error e => .error (i, e)
      | .ok x => .ok (v ++ [x])
theorem evTo_step {V E : Type} {st : Nat → PI → List V → Except E V} {l : List PI} {i : Nat} {v : List V} {x : V} (h : evTo st l i = .ok v) (hs : st i (l.getD i PI.nil) v = .ok x) : evTo st l (i + 1) = .ok (v ++ [x]) := by
  unfold evTo
  rw [h]
  simp only [hs]
theorem getD_app_left {V : Type} {d : V} (u w : List V) {i : Nat} (h : i < u.length) : (u ++ w).getD i d = u.getD i d := by
  rw [List.getD_eq_getElem?_getD, List.getElem?_append_left h, ← List.getD_eq_getElem?_getD]
theorem getD_app_end {V : Type} {d : V} (u : List V) (x : V) {i : Nat} (h : u.length = i) : (u ++ [x]).getD i d = x := by
  rw [List.getD_eq_getElem?_getD, List.getElem?_append_right (by omega), h, Nat.sub_self]
  rfl
/-! ### marking from behind -/
/-! ### marking by going down -/
end Go.Proofs.YthpbaaanbimapaaGreatDoor

namespace Go.Proofs.YthpbaaanbimapaaGreatDoor
set_option maxRecDepth 100000
open Go.RowKit
set_option linter.unusedVariables false
set_option linter.unusedSimpArgs false

end Go.Proofs.YthpbaaanbimapaaGreatDoor

namespace Go.Proofs.YthpbaaanbimapaaGreatDoor
set_option maxRecDepth 100000
open Go.RowKit Go.WideShapes Go.ChangeShapes Go.Deep Go.Joins
set_option linter.unusedVariables false
set_option linter.unusedSimpArgs false

/-- an exact number as it lies: a sign, two slices of words, and what these say -/
structure RQ where
  s : Bool
  A : Option Addr
  n : Nat
  c : Nat
  z : List Int
  A' : Option Addr
  n' : Nat
  c' : Nat
  z' : List Int
instance : Inhabited RQ := ⟨⟨false, none, 0, 0, [], none, 0, 0, []⟩⟩
def RQ.ok (w : World) (x : RQ) : Prop := Sl w x.A x.n x.c x.z ∧ Sl w x.A' x.n' x.c' x.z' ∧ x.n ≤ maxLen ∧ x.n' ≤ maxLen
def RQ.cells (x : RQ) : List Value := [.bool x.s, .slice x.A x.n x.c, .slice x.A' x.n' x.c']
theorem RQ.below {w w' : World} {x : RQ} (h : x.ok w) (hb : Below w.heap.size w w') : x.ok w' := ⟨h.1.below hb, h.2.1.below hb, h.2.2⟩
/-- an instruction as it lies -/
structure RI where
  op : Int
  a : Int
  b : Int
  q : RQ
instance : Inhabited RI := ⟨⟨0, 0, 0, default⟩⟩
def I64 (x : Int) : Prop := -9223372036854775808 ≤ x ∧ x ≤ 9223372036854775807
def RI.ok (w : World) (x : RI) : Prop := I64 x.op ∧ I64 x.a ∧ I64 x.b ∧ x.q.ok w
def RI.cells (x : RI) : List Value := [.int .i64 x.op, .int .i64 x.a, .int .i64 x.b, .bool x.q.s, .slice x.q.A x.q.n x.q.c, .slice x.q.A' x.q.n' x.q.c']
theorem RI.below {w w' : World} {x : RI} (h : x.ok w) (hb : Below w.heap.size w w') : x.ok w' := ⟨h.1, h.2.1, h.2.2.1, RQ.below h.2.2.2 hb⟩
theorem I64_of_wf {x : Int} (h : (Lit.int .i64 x).wf = true) : I64 x := by
  simp [Lit.wf, IntKind.min, IntKind.max, IntKind.signed, IntKind.bits] at h
  unfold I64
  omega

/-- a slice whose elements take k cells each, told by the elements' cells -/
def SlC (k : Nat) {V : Type} (cells : V → List Value) (ok : World → V → Prop) (w : World) (A : Option Addr) (n c : Nat) (xs : List V) : Prop :=
  (xs.length = n ∧ n ≤ c ∧ c ≤ maxLen ∧ ∀ x ∈ xs, ok w x ∧ (cells x).length = k) ∧
  (0 < n → ∃ b off, A = some ⟨b, off, none⟩ ∧ b < w.heap.size ∧ ∀ j, j < n → ∀ i, i < k → w.cell? ⟨b, off + j * k + i, none⟩ = (xs[j]?).bind fun x => (cells x)[i]?)
theorem SlC.below {k : Nat} {V : Type} {cells : V → List Value} {ok : World → V → Prop} (hok : ∀ {w w' : World} {x : V}, ok w x → Below w.heap.size w w' → ok w' x) {w w' : World} {A : Option Addr} {n c : Nat} {xs : List V}
    (h : SlC k cells ok w A n c xs) (hb : Below w.heap.size w w') : SlC k cells ok w' A n c xs := by
  refine ⟨⟨h.1.1, h.1.2.1, h.1.2.2.1, fun x hx => ⟨hok (h.1.2.2.2 x hx).1 hb, (h.1.2.2.2 x hx).2⟩⟩, fun h0 => ?_⟩
  obtain ⟨b, off, e, hlt, hc⟩ := h.2 h0
  exact ⟨b, off, e, Nat.lt_of_lt_of_le hlt hb.size, fun j hj i hi => (hb.cell (p := ⟨b, off + j * k + i, none⟩) hlt).trans (hc j hj i hi)⟩
/-- a slice of instructions, of exact numbers, of ints -/
def SlP (w : World) (A : Option Addr) (n c : Nat) (xs : List RI) : Prop := SlC 6 RI.cells RI.ok w A n c xs
def SlR (w : World) (A : Option Addr) (n c : Nat) (xs : List RQ) : Prop := SlC 3 RQ.cells RQ.ok w A n c xs
def SlZ (w : World) (A : Option Addr) (n c : Nat) (xs : List Int) : Prop := SlC 1 (fun x => [Value.int .i64 x]) (fun _ x => I64 x) w A n c xs
theorem SlP.below {w w' : World} {A : Option Addr} {n c : Nat} {xs : List RI} (h : SlP w A n c xs) (hb : Below w.heap.size w w') : SlP w' A n c xs := SlC.below (cells := RI.cells) (ok := RI.ok) (fun h hb => RI.below h hb) h hb
theorem SlR.below {w w' : World} {A : Option Addr} {n c : Nat} {xs : List RQ} (h : SlR w A n c xs) (hb : Below w.heap.size w w') : SlR w' A n c xs := SlC.below (cells := RQ.cells) (ok := RQ.ok) (fun h hb => RQ.below h hb) h hb
theorem SlZ.below {w w' : World} {A : Option Addr} {n c : Nat} {xs : List Int} (h : SlZ w A n c xs) (hb : Below w.heap.size w w') : SlZ w' A n c xs := SlC.below (fun h _ => h) h hb
/-- the cells of an element -/
theorem SlP.at_ {w : World} {A : Option Addr} {n c : Nat} {xs : List RI} (h : SlP w A n c xs) {j : Nat} (hj : j < n) : ∃ b off x, A = some ⟨b, off, none⟩ ∧ b < w.heap.size ∧ xs[j]? = some x ∧ x.ok w ∧
    w.cell? ⟨b, off + j * 6, none⟩ = some (.int .i64 x.op) ∧ w.cell? ⟨b, off + j * 6 + 1, none⟩ = some (.int .i64 x.a) ∧ w.cell? ⟨b, off + j * 6 + 2, none⟩ = some (.int .i64 x.b) ∧
    w.cell? ⟨b, off + j * 6 + 3, none⟩ = some (.bool x.q.s) ∧ w.cell? ⟨b, off + j * 6 + 4, none⟩ = some (.slice x.q.A x.q.n x.q.c) ∧ w.cell? ⟨b, off + j * 6 + 5, none⟩ = some (.slice x.q.A' x.q.n' x.q.c') := by
  obtain ⟨b, off, e, hlt, hc⟩ := h.2 (by omega)
  have hl : j < xs.length := by rw [h.1.1]; exact hj
  have hx : xs[j]? = some xs[j] := List.getElem?_eq_getElem hl
  have hcj := hc j hj
  rw [hx] at hcj
  refine ⟨b, off, xs[j], e, hlt, hx, (h.1.2.2.2 _ (List.getElem_mem hl)).1, ?_⟩
  exact ⟨hcj 0 (by omega), hcj 1 (by omega), hcj 2 (by omega), hcj 3 (by omega), hcj 4 (by omega), hcj 5 (by omega)⟩
theorem SlR.at_ {w : World} {A : Option Addr} {n c : Nat} {xs : List RQ} (h : SlR w A n c xs) {j : Nat} (hj : j < n) : ∃ b off x, A = some ⟨b, off, none⟩ ∧ b < w.heap.size ∧ xs[j]? = some x ∧ x.ok w ∧
    w.cell? ⟨b, off + j * 3, none⟩ = some (.bool x.s) ∧ w.cell? ⟨b, off + j * 3 + 1, none⟩ = some (.slice x.A x.n x.c) ∧ w.cell? ⟨b, off + j * 3 + 2, none⟩ = some (.slice x.A' x.n' x.c') := by
  obtain ⟨b, off, e, hlt, hc⟩ := h.2 (by omega)
  have hl : j < xs.length := by rw [h.1.1]; exact hj
  have hx : xs[j]? = some xs[j] := List.getElem?_eq_getElem hl
  have hcj := hc j hj
  rw [hx] at hcj
  refine ⟨b, off, xs[j], e, hlt, hx, (h.1.2.2.2 _ (List.getElem_mem hl)).1, ?_⟩
  exact ⟨hcj 0 (by omega), hcj 1 (by omega), hcj 2 (by omega)⟩
theorem SlZ.at_ {w : World} {A : Option Addr} {n c : Nat} {xs : List Int} (h : SlZ w A n c xs) {j : Nat} (hj : j < n) : ∃ b off x, A = some ⟨b, off, none⟩ ∧ b < w.heap.size ∧ xs[j]? = some x ∧ I64 x ∧ w.cell? ⟨b, off + j, none⟩ = some (.int .i64 x) := by
  obtain ⟨b, off, e, hlt, hc⟩ := h.2 (by omega)
  have hl : j < xs.length := by rw [h.1.1]; exact hj
  have hx : xs[j]? = some xs[j] := List.getElem?_eq_getElem hl
  have hcj := hc j hj
  rw [hx] at hcj
  refine ⟨b, off, xs[j], e, hlt, hx, (h.1.2.2.2 _ (List.getElem_mem hl)).1, ?_⟩
  have := hcj 0 (by omega)
  rw [Nat.mul_one, Nat.add_zero] at this
  exact this
/-! ### what came in -/
section
variable {H : Type} {enc : TypeId × Value → H} {P : Program} {w : World} {base : Nat} {spare : Nat → Bool} {held : Bool}
/-- a slice of words -/
theorem open_sl {t e : TypeId} {fuel : Nat} {v : Value} {x : DataW H × List MemPlace} (ht : P.underlying t = some (.slice e)) (he : P.underlying e = some (.int .u64)) (hc : P.cellsOf e = 1)
    (h : DataW.trod enc P w base (fun _ => true) held fuel t [v] = some x) : ∃ A n c z, v = .slice A n c ∧ Sl w A n c z ∧ n ≤ maxLen := by
  rcases open_ints ht he hc h with ⟨hcs, _⟩ | ⟨a, l, c, zs, hcs, _, hl, hm, hz, _, hcell, hwz⟩
  · simp at hcs
    exact ⟨none, 0, 0, [], hcs, Sl.nil _ _ _, by unfold maxLen; omega⟩
  · simp at hcs
    have hr : IsRow .u64 w (some a) l c zs := .inr ⟨_, rfl, hl, hm, by simpa using hz, hcell, hwz⟩
    obtain ⟨h1, h2⟩ := hr.sl
    exact ⟨some a, l, c, _, hcs, h1, h2⟩
/-- what a program's table says of the type of exact numbers -/
structure RatTy (P : Program) (t : TypeId) : Prop where
  st : ∃ f0 f1 f2 : Field, P.underlying t = some (.struct #[f0, f1, f2]) ∧ f0.offset = 0 ∧ f1.offset = 1 ∧ f2.offset = 2 ∧ P.cellsOf f0.type = 1 ∧ P.cellsOf f1.type = 1 ∧ P.cellsOf f2.type = 1 ∧
    P.underlying f0.type = some .bool ∧ ∃ e e', P.underlying f1.type = some (.slice e) ∧ P.underlying f2.type = some (.slice e') ∧ P.underlying e = some (.int .u64) ∧ P.underlying e' = some (.int .u64) ∧ P.cellsOf e = 1 ∧ P.cellsOf e' = 1
  size : P.cellsOf t = 3
theorem open_rq {t : TypeId} (T : RatTy P t) {fuel : Nat} {cs : List Value} {x : DataW H × List MemPlace} (h : DataW.trod enc P w base (fun _ => true) held fuel t cs = some x) : ∃ q : RQ, cs = q.cells ∧ q.ok w := by
  obtain ⟨⟨f0, f1, f2, hs, o0, o1, o2, c0, c1, c2, hb, e, e', h1, h2, h3, h4, h5, h6⟩, hC⟩ := T
  obtain ⟨xs, n, _, _, hl, hxl, hf⟩ := DataW.trod_struct hs h
  rw [hC] at hl
  match cs, hl with
  | [v0, v1, v2], _ =>
    have g0 := hf 0 f0 rfl
    have g1 := hf 1 f1 rfl
    have g2 := hf 2 f2 rfl
    have hx : xs.length = 3 := hxl
    rw [List.getElem?_eq_getElem (by omega)] at g0 g1 g2
    rw [o0, c0] at g0
    rw [o1, c1] at g1
    rw [o2, c2] at g2
    simp only [List.drop_zero, List.take_succ_cons, List.take_zero, List.drop_succ_cons] at g0 g1 g2
    obtain ⟨s, es, _⟩ := DataW.trod_bool hb g0
    obtain ⟨A, n1, c1', z, ea, sa, la⟩ := open_sl h1 h3 h5 g1
    obtain ⟨A', n2, c2', z', eb, sb, lb⟩ := open_sl h2 h4 h6 g2
    refine ⟨⟨s, A, n1, c1', z, A', n2, c2', z'⟩, ?_, sa, sb, la, lb⟩
    simp at es
    subst es ea eb
    rfl
/-- .. and of the type of instructions -/
structure InsTy (P : Program) (t : TypeId) : Prop where
  st : ∃ f0 f1 f2 f3 : Field, P.underlying t = some (.struct #[f0, f1, f2, f3]) ∧ f0.offset = 0 ∧ f1.offset = 1 ∧ f2.offset = 2 ∧ f3.offset = 3 ∧ P.cellsOf f0.type = 1 ∧ P.cellsOf f1.type = 1 ∧ P.cellsOf f2.type = 1 ∧
    P.underlying f0.type = some (.int .i64) ∧ P.underlying f1.type = some (.int .i64) ∧ P.underlying f2.type = some (.int .i64) ∧ RatTy P f3.type
  size : P.cellsOf t = 6
theorem open_ri {t : TypeId} (T : InsTy P t) {fuel : Nat} {cs : List Value} {x : DataW H × List MemPlace} (h : DataW.trod enc P w base (fun _ => true) held fuel t cs = some x) : ∃ q : RI, cs = q.cells ∧ q.ok w := by
  obtain ⟨⟨f0, f1, f2, f3, hs, o0, o1, o2, o3, c0, c1, c2, h0, h1, h2, R⟩, hC⟩ := T
  obtain ⟨xs, n, _, _, hl, hxl, hf⟩ := DataW.trod_struct hs h
  rw [hC] at hl
  match cs, hl with
  | [v0, v1, v2, v3, v4, v5], _ =>
    have g0 := hf 0 f0 rfl
    have g1 := hf 1 f1 rfl
    have g2 := hf 2 f2 rfl
    have g3 := hf 3 f3 rfl
    have hx : xs.length = 4 := hxl
    rw [List.getElem?_eq_getElem (by omega)] at g0 g1 g2 g3
    rw [o0, c0] at g0
    rw [o1, c1] at g1
    rw [o2, c2] at g2
    rw [o3, R.size] at g3
    simp only [List.drop_zero, List.take_succ_cons, List.take_zero, List.drop_succ_cons] at g0 g1 g2 g3
    obtain ⟨x0, e0, _, w0⟩ := DataW.trod_int h0 g0
    obtain ⟨x1, e1, _, w1⟩ := DataW.trod_int h1 g1
    obtain ⟨x2, e2, _, w2⟩ := DataW.trod_int h2 g2
    obtain ⟨q, eq_, ok⟩ := open_rq R g3
    refine ⟨⟨x0, x1, x2, q⟩, ?_, I64_of_wf w0, I64_of_wf w1, I64_of_wf w2, ok⟩
    simp at e0 e1 e2
    unfold RQ.cells at eq_
    simp at eq_
    obtain ⟨rfl, rfl, rfl⟩ := eq_
    subst e0 e1 e2
    rfl
/-- a slice of such -/
theorem open_slc {k : Nat} {V : Type} [Inhabited V] {cells : V → List Value} {ok : World → V → Prop} {t e : TypeId} (ht : P.underlying t = some (.slice e)) (hk : P.cellsOf e = k)
    (hop : ∀ (fuel : Nat) (cs : List Value) (x : DataW H × List MemPlace), DataW.trod enc P w base (fun _ => true) held fuel e cs = some x → ∃ q : V, cs = cells q ∧ ok w q) (hkp : 0 < k)
    {fuel : Nat} {v : Value} {x : DataW H × List MemPlace} (h : DataW.trod enc P w base (fun _ => true) held fuel t [v] = some x) : ∃ A n c xs, v = .slice A n c ∧ SlC k cells ok w A n c xs := by
  rcases open_slice ht h with ⟨hcs, _⟩ | ⟨a, len, cap, m, n, D, Pl, hcs, hb, hl, hm, hmm, _, hx⟩
  · simp at hcs
    exact ⟨none, 0, 0, [], hcs, ⟨rfl, Nat.le_refl _, by unfold maxLen; omega, by simp⟩, fun h0 => absurd h0 (by omega)⟩
  · simp at hcs
    simp at hmm
    rw [hk] at hx
    have each : ∀ i, i < len → ∃ q : V, w.cells? base (a.add (i * k)) k = some (cells q) ∧ ok w q := by
      intro i hi
      obtain ⟨cs', h1, h2⟩ := hx i (by omega)
      obtain ⟨q, hq, ho⟩ := hop _ _ _ h2
      exact ⟨q, by rw [h1, hq], ho⟩
    obtain ⟨f, hf⟩ := choose_lt each
    have hcell : ∀ j, j < len → (cells (f j)).length = k ∧ ∀ i, i < k → w.cell? ((a.add (j * k)).add i) = (cells (f j))[i]? := by
      intro j hj
      obtain ⟨_, h2, h3⟩ := World.cells?_some (hf j hj).1
      exact ⟨h2, h3⟩
    refine ⟨some a, len, cap, (List.range len).map f, hcs, ⟨by simp, hl, hm, fun y hy => ?_⟩, fun h0 => ?_⟩
    · obtain ⟨j, hj, rfl⟩ := List.mem_map.1 hy
      have hj' := List.mem_range.1 hj
      exact ⟨(hf j hj').2, (hcell j hj').1⟩
    · obtain ⟨b, off, spot⟩ := a
      have hc0 := (hcell 0 h0).2 0 hkp
      have hlen0 := (hcell 0 h0).1
      rw [List.getElem?_eq_getElem (by omega)] at hc0
      have hspot : spot = none := by simpa [Addr.add] using World.cell?_spot hc0
      subst hspot
      have hlt : b < w.heap.size := by
        rcases Nat.lt_or_ge b w.heap.size with h9 | h9
        · exact h9
        · exfalso
          simp [Addr.add, World.cell?, Array.getElem?_eq_none h9] at hc0
      refine ⟨b, off, rfl, hlt, fun j hj i hi => ?_⟩
      have := (hcell j hj).2 i hi
      rw [add_add] at this
      have e : ((⟨b, off, none⟩ : Addr).add (j * k + i)) = ⟨b, off + j * k + i, none⟩ := by
        unfold Addr.add; split
        · rename_i h9
          have h8 : off + j * k + i = off := by omega
          rw [h8]
        · rw [Nat.add_assoc]
      rw [e] at this
      rw [List.getElem?_map, List.getElem?_range hj]
      exact this
theorem open_slp {t e : TypeId} (ht : P.underlying t = some (.slice e)) (T : InsTy P e) {fuel : Nat} {v : Value} {x : DataW H × List MemPlace} (h : DataW.trod enc P w base (fun _ => true) held fuel t [v] = some x) : ∃ A n c xs, v = .slice A n c ∧ SlP w A n c xs :=
  open_slc ht T.size (fun _ _ _ h => open_ri T h) (by omega) h
theorem open_slr {t e : TypeId} (ht : P.underlying t = some (.slice e)) (T : RatTy P e) {fuel : Nat} {v : Value} {x : DataW H × List MemPlace} (h : DataW.trod enc P w base (fun _ => true) held fuel t [v] = some x) : ∃ A n c xs, v = .slice A n c ∧ SlR w A n c xs :=
  open_slc ht T.size (fun _ _ _ h => open_rq T h) (by omega) h
end

end Go.Proofs.YthpbaaanbimapaaGreatDoor

namespace Go.Proofs.YthpbaaanbimapaaGreatDoor
set_option maxRecDepth 100000
open Go.RowKit
set_option linter.unusedVariables false
set_option linter.unusedSimpArgs false

def RI.pi (x : RI) : PI := ⟨x.op, x.a, x.b, (x.q.s, x.q.z, x.q.z')⟩
def isF (x : PI) : Bool := isForm x.op
end Go.Proofs.YthpbaaanbimapaaGreatDoor
