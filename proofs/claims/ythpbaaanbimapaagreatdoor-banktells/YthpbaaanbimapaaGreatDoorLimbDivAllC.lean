/-
  Plain mathematics of numbers as lists of digits, the least significant first: values, sizes, normalized lists. No Go in sight. Conditions: those that each theorem names.
-/
import Derived.Test.YthpbaaanbimapaaGreatDoorU64AllC
namespace Go.Proofs.YthpbaaanbimapaaGreatDoor
set_option maxRecDepth 100000
open Go.RowKit
set_option linter.unusedVariables false
set_option linter.unusedSimpArgs false

set_option maxHeartbeats 400000 in
set_option maxRecDepth 100000 in
theorem div_half (r x d : Nat) (hx : x < 4294967296) (hd : d < 18446744073709551616) (hd2 : 9223372036854775808 ≤ d) (hr : r < d) (w : World) :
    Calls Tryz.prog 235 #[.int .u64 r, .int .u64 x, .int .u64 d] w fun e w' => e = .returned (.tuple #[.int .u64 (dhq r x d), .int .u64 (dhr r x d)]) ∧ ∃ n, w' = w.drewN n := by
  obtain ⟨d1, hd1⟩ : ∃ d1, d1 = d / 4294967296 := ⟨_, rfl⟩
  obtain ⟨d0, hd0⟩ : ∃ d0, d0 = d % 4294967296 := ⟨_, rfl⟩
  have HD : Hid (d = d1 * 4294967296 + d0) := by show d = _; omega
  have l1 : 2147483648 ≤ d1 := by omega
  have l1' : d1 < 4294967296 := by omega
  have l0 : d0 < 4294967296 := by omega
  have e1 : (d : Int) / 4294967296 = (d1 : Int) := by omega
  have e0 : bits BinOp.and IntKind.u64 (d : Int) 4294967295 = (d0 : Int) := by rw [and32 (by unfold U; omega)]; omega
  have hz : ((d1 : Int) == 0) = false := by simp; omega
  have HR := Lib.hid hr
  clear hd1 hd0 hr
  go_enter Tryz.func235, Tryz.ntmps235
  go_wp2
  go_region
  go_wp2
  go_loop [10, 11] (fun x1 y1 => ∃ (q s : Nat), x1 = .int .u64 q ∧ y1 = .int .u64 s ∧ DhAt r x d1 d0 q s) (fun x1 _ => mes x1)
  case atStart =>
    have hq : r / d1 ≤ r := Nat.div_le_self _ _
    have hr' := HR.out
    exact ⟨r / d1, r % d1, vint (by rw [← Int.natCast_ediv, wrapU]; generalize r / d1 = q at *; omega), vint (by rw [Int.natCast_emod]), dhAt_0 hx l1 l1' l0 (by rw [← HD.out]; exact HR.out)⟩
  case round =>
    obtain ⟨q, s, rfl, rfl, hk⟩ := hrel
    have hp := dhAt_prod l0 hk
    have hs : s < 4294967296 := hk.2.2.2
    have hq : q ≤ 4294967297 := hk.2.2.1
    obtain ⟨p, ep⟩ : ∃ p : Int, (q : Int) * (d0 : Int) = p := ⟨_, rfl⟩
    obtain ⟨y, ey⟩ : ∃ y : Int, (s : Int) * 4294967296 = y := ⟨_, rfl⟩
    have hp' : ((q * d0 : Nat) : Int) = p := by rw [Int.natCast_mul]; exact ep
    have hp1 : p ≤ 18446744073709551615 := by omega
    have hp0 : 0 ≤ p := by omega
    have hy0 : 0 ≤ y := by omega
    have hy1 : y ≤ 18446744073709551615 := by omega
    obtain ⟨z, ez⟩ : ∃ z : Int, bits BinOp.or IntKind.u64 y (x : Int) = z := ⟨_, rfl⟩
    have hz' : z = y + x := by rw [← ez]; exact or32 (by unfold U; omega) (by omega) (by omega) (by omega)
    by_cases ht : s * 4294967296 + x < q * d0
    · have ht' : z < p := by omega
      have hq1 : 0 < q := (dhAt_next l1 hk ht).1
      by_cases hb : s + d1 < 4294967296
      · have L := dhAt_more l1 hk ht hb
        obtain ⟨t, et⟩ : ∃ t : Int, (s : Int) + d1 = t := ⟨_, rfl⟩
        have hb' : t < 4294967296 := by omega
        have hb0 : 0 ≤ t := by omega
        have HL := Lib.hid L
        clear ht hp hb L hp' hz' hs hy0
        go_wp2
        go_round
        case rel => exact ⟨q - 1, s + d1, vint (by omega), vint (by omega), HL.out⟩
        case measure => exact mes_lt (by omega) (by omega)
      · have L := dhAt_break l1 l0 hk ht (by omega)
        have HL := Lib.hid L
        have hb' : 4294967296 ≤ (s : Int) + d1 := by omega
        clear L ht hp hb hp' hz'
        go_wp2
        go_ret2
        refine ⟨ret2 ?_ ?_, 1, rfl⟩
        · rw [← show ((q - 1 : Nat) : Int) = (q : Int) - 1 by omega, HL.out, ← HD.out]; rfl
        · rw [← show ((q - 1 : Nat) : Int) = (q : Int) - 1 by omega, HL.out, ← HD.out]
          exact dh_rest hd (by omega)
    · have L := dhAt_stop l1 hk (by omega)
      have HL := Lib.hid L
      clear L
      have ht' : p ≤ z := by omega
      clear ht hp hp' hz'
      go_wp2
      go_ret2
      refine ⟨ret2 ?_ ?_, 1, rfl⟩
      · rw [HL.out, ← HD.out]; rfl
      · rw [HL.out, ← HD.out]
        exact dh_rest hd (by omega)

set_option maxHeartbeats 400000 in
theorem limb_div_no (h l d : Int) (hd : d ≤ h) (w : World) :
    Calls Tryz.prog 203 #[.int .u64 h, .int .u64 l, .int .u64 d] w fun e w' => e = .returned (.tuple #[.int .u64 0, .int .u64 0, .bool false]) ∧ w = w' := by
  go_enter Tryz.func203, Tryz.ntmps203
  go_wp2
  go_ret3
  exact ⟨rfl, rfl⟩

set_option maxHeartbeats 400000 in
theorem limb_div_yes (h l d : Int) (hh : U h) (hl : U l) (hd' : U d) (hd : h < d) (w : World) :
    Calls Tryz.prog 203 #[.int .u64 h, .int .u64 l, .int .u64 d] w fun e w' => e = .returned (.tuple #[.int .u64 ((h * 18446744073709551616 + l) / d), .int .u64 ((h * 18446744073709551616 + l) % d), .bool true]) ∧ ∃ n, w' = w.drewN n := by
  obtain ⟨H, rfl⟩ := Int.eq_ofNat_of_zero_le hh.nn
  obtain ⟨L, rfl⟩ := Int.eq_ofNat_of_zero_le hl.nn
  obtain ⟨D, rfl⟩ := Int.eq_ofNat_of_zero_le hd'.nn
  have hD : D < 18446744073709551616 := by unfold U at hd'; omega
  have hL : L < 18446744073709551616 := by unfold U at hl; omega
  obtain ⟨s, D', T, M, M1, M0, Q1, R1, Q0, R0, ⟨es, hs64, f1, f2, f3, g3, g4, l1, l0, g1, g2⟩, eD, eT, eM, eM1, eM0, eQ1, eR1, eQ0, eR0, eQ, eR⟩ := div_setup (H := H) (L := L) (by omega) hL hD
  have EQ := Lib.hid eQ
  have ER := Lib.hid eR
  clear eQ eR
  go_enter Tryz.func203, Tryz.ntmps203
  go_wp2_with (go_at_call 141; refine (limb_len _ hd' _).mono ?_; rintro e w' ⟨rfl, rfl⟩)
  go_region
  go_wp2_with fail
  refine (div_half T M1 D' l1 f1 f2 f3 _).mono ?_
  rintro e w1 ⟨rfl, n1, rfl⟩
  go_wp2_with fail
  refine (div_half R1 M0 D' l0 f1 f2 g3 _).mono ?_
  rintro e w1 ⟨rfl, n2, rfl⟩
  go_wp2_with fail
  go_region
  go_wp2
  go_ret3
  exact ⟨ret3 EQ.out ER.out rfl, 1 + n1 + n2 + 1, rfl⟩

end Go.Proofs.YthpbaaanbimapaaGreatDoor

namespace Go.Proofs.YthpbaaanbimapaaGreatDoor
set_option maxRecDepth 100000
open Go.RowKit
set_option linter.unusedVariables false
set_option linter.unusedSimpArgs false

/-- the number that a list of digits says, to the base b -/
def valB (b : Nat) : List Int → Nat
  | [] => 0
  | x :: xs => x.toNat + b * valB b xs
/-- digits to the base b -/
def Dg (b : Nat) (xs : List Int) : Prop := ∀ x ∈ xs, 0 ≤ x ∧ x < (b : Int)
/-- how many digits a list has without zeros at its end -/
def sz : List Int → Nat
  | [] => 0
  | x :: xs => if sz xs = 0 then (if x = 0 then 0 else 1) else sz xs + 1
def trim (xs : List Int) : List Int := xs.take (sz xs)
/-- the base of words -/
def W : Nat := 18446744073709551616
/-- the number that a list of words says -/
def val (xs : List Int) : Nat := valB W xs
/-- the normalized list of a number -/
def wordsB (b : Nat) : Nat → Nat → List Int
  | 0, _ => []
  | f + 1, n => if n = 0 then [] else ((n % b : Nat) : Int) :: wordsB b f (n / b)
def words (n : Nat) : List Int := wordsB W n n

theorem W_pow : W = 2 ^ 64 := rfl
theorem W_pos : 0 < W := by unfold W; omega
theorem Dg_U {xs : List Int} (h : ∀ x ∈ xs, U x) : Dg W xs := fun x hx => by have := h x hx; unfold U at this; unfold W; omega
theorem U_Dg {xs : List Int} (h : Dg W xs) : ∀ x ∈ xs, U x := fun x hx => by have := h x hx; unfold U; unfold W at this; omega
theorem Dg.nil (b : Nat) : Dg b [] := fun x h => by simp at h
theorem Dg.cons {b : Nat} {x : Int} {xs : List Int} (h0 : 0 ≤ x) (h1 : x < b) (h : Dg b xs) : Dg b (x :: xs) := fun y hy => by
  rcases List.mem_cons.1 hy with rfl | hy
  · exact ⟨h0, h1⟩
  · exact h y hy
theorem Dg.head {b : Nat} {x : Int} {xs : List Int} (h : Dg b (x :: xs)) : 0 ≤ x ∧ x < b := h x (by simp)
theorem Dg.tail {b : Nat} {x : Int} {xs : List Int} (h : Dg b (x :: xs)) : Dg b xs := fun y hy => h y (by simp [hy])
theorem Dg.append {b : Nat} {xs ys : List Int} (h : Dg b xs) (h' : Dg b ys) : Dg b (xs ++ ys) := fun y hy => by
  rcases List.mem_append.1 hy with hy | hy
  · exact h y hy
  · exact h' y hy
theorem Dg.snoc {b : Nat} {xs : List Int} {x : Int} (h : Dg b xs) (h0 : 0 ≤ x) (h1 : x < b) : Dg b (xs ++ [x]) := h.append (Dg.cons h0 h1 (Dg.nil b))
theorem Dg.take {b : Nat} {xs : List Int} (h : Dg b xs) (k : Nat) : Dg b (xs.take k) := fun y hy => h y (List.mem_of_mem_take hy)
theorem Dg.drop {b : Nat} {xs : List Int} (h : Dg b xs) (k : Nat) : Dg b (xs.drop k) := fun y hy => h y (List.mem_of_mem_drop hy)
theorem Dg.at_ {b : Nat} (hb : 0 < b) {xs : List Int} (h : Dg b xs) (k : Nat) : 0 ≤ xs.getD k 0 ∧ xs.getD k 0 < b := by
  by_cases hj : k < xs.length
  · rw [List.getD_eq_getElem?_getD, List.getElem?_eq_getElem hj]
    exact h _ (List.getElem_mem hj)
  · rw [List.getD_eq_getElem?_getD, List.getElem?_eq_none (by omega)]
    simp; omega
theorem Dg.set {b : Nat} {xs : List Int} (h : Dg b xs) (k : Nat) {x : Int} (h0 : 0 ≤ x) (h1 : x < b) : Dg b (xs.set k x) := fun y hy => by
  rcases List.mem_or_eq_of_mem_set hy with hy | rfl
  · exact h y hy
  · exact ⟨h0, h1⟩
theorem Dg.zeros {b : Nat} (hb : 0 < b) (n : Nat) : Dg b (List.replicate n 0) := fun y hy => by
  rw [List.eq_of_mem_replicate hy]; omega

theorem valB_append (b : Nat) (xs ys : List Int) : valB b (xs ++ ys) = valB b xs + b ^ xs.length * valB b ys := by
  induction xs with
  | nil => simp [valB]
  | cons x xs ih =>
    simp only [List.cons_append, valB, ih, List.length_cons, Nat.pow_succ]
    grind
theorem valB_snoc (b : Nat) (xs : List Int) (x : Int) : valB b (xs ++ [x]) = valB b xs + b ^ xs.length * x.toNat := by
  rw [valB_append]; simp [valB]
theorem valB_lt {b : Nat} {xs : List Int} (h : Dg b xs) : valB b xs < b ^ xs.length := by
  induction xs with
  | nil => simp [valB]
  | cons x xs ih =>
    have h1 := h.head
    have h2 := ih h.tail
    simp only [valB, List.length_cons, Nat.pow_succ]
    have : b * (valB b xs + 1) ≤ b * b ^ xs.length := Nat.mul_le_mul_left _ h2
    rw [Nat.mul_comm (b ^ xs.length) b]
    have e : b * (valB b xs + 1) = b * valB b xs + b := by grind
    omega
theorem valB_zeros (b n : Nat) : valB b (List.replicate n 0) = 0 := by
  induction n with
  | zero => rfl
  | succ n ih => simp [List.replicate_succ, valB, ih]
theorem valB_drop (b : Nat) (xs : List Int) (k : Nat) : valB b (xs.drop k) = (xs.getD k 0).toNat + b * valB b (xs.drop (k + 1)) := by
  by_cases hk : k < xs.length
  · rw [List.drop_eq_getElem_cons hk, valB, List.getD_eq_getElem?_getD, List.getElem?_eq_getElem hk]
    rfl
  · rw [List.drop_eq_nil_of_le (by omega), List.drop_eq_nil_of_le (by omega), List.getD_eq_getElem?_getD, List.getElem?_eq_none (by omega)]
    rfl
theorem valB_take_succ (b : Nat) (xs : List Int) (k : Nat) : valB b (xs.take (k + 1)) = valB b (xs.take k) + b ^ k * (xs.getD k 0).toNat := by
  by_cases hk : k < xs.length
  · rw [List.take_succ_eq_append_getElem hk, valB_snoc, List.length_take, Nat.min_eq_left (by omega), List.getD_eq_getElem?_getD, List.getElem?_eq_getElem hk]
    rfl
  · rw [List.take_of_length_le (by omega), List.take_of_length_le (by omega), List.getD_eq_getElem?_getD, List.getElem?_eq_none (by omega)]
    simp
theorem valB_split (b : Nat) (xs : List Int) (k : Nat) : valB b xs = valB b (xs.take k) + b ^ k * valB b (xs.drop k) := by
  induction k with
  | zero => simp [valB]
  | succ k ih =>
    rw [ih, valB_take_succ, valB_drop b xs k, Nat.pow_succ]
    grind
theorem valB_take_lt {b : Nat} (hb : 0 < b) {xs : List Int} (h : Dg b xs) (k : Nat) : valB b (xs.take k) < b ^ k := by
  refine Nat.lt_of_lt_of_le (valB_lt (h.take k)) ?_
  exact Nat.pow_le_pow_right hb (by rw [List.length_take]; omega)
theorem valB_div {b : Nat} (hb : 0 < b) {xs : List Int} (h : Dg b xs) (k : Nat) : valB b xs / b ^ k = valB b (xs.drop k) := by
  rw [valB_split b xs k, Nat.add_comm, Nat.mul_add_div (Nat.pow_pos hb), Nat.div_eq_of_lt (valB_take_lt hb h k), Nat.add_zero]
theorem valB_digit {b : Nat} (hb : 0 < b) {xs : List Int} (h : Dg b xs) (k : Nat) : valB b xs / b ^ k % b = (xs.getD k 0).toNat := by
  have := h.at_ hb k
  rw [valB_div hb h, valB_drop, Nat.add_mul_mod_self_left, Nat.mod_eq_of_lt (by omega)]
theorem valB_set (b : Nat) (xs : List Int) (k : Nat) (hk : k < xs.length) (x : Int) : valB b (xs.set k x) + b ^ k * (xs.getD k 0).toNat = valB b xs + b ^ k * x.toNat := by
  induction xs generalizing k with
  | nil => simp at hk
  | cons y ys ih =>
    cases k with
    | zero => simp [valB]; omega
    | succ k =>
      have := ih k (by simpa using hk)
      simp only [List.set_cons_succ, valB, List.getD_cons_succ, Nat.pow_succ]
      generalize (ys.getD k 0).toNat = p at *
      generalize x.toNat = q at *
      generalize valB b (ys.set k x) = r at *
      generalize valB b ys = s at *
      have e1 : b ^ k * b * p = b * (b ^ k * p) := by grind
      have e2 : b ^ k * b * q = b * (b ^ k * q) := by grind
      rw [e1, e2]
      have e3 : b * r + b * (b ^ k * p) = b * s + b * (b ^ k * q) := by rw [← Nat.mul_add, ← Nat.mul_add, this]
      omega

/-! ### sizes -/
theorem sz_le (xs : List Int) : sz xs ≤ xs.length := by
  induction xs with
  | nil => simp [sz]
  | cons x xs ih => simp only [sz, List.length_cons]; split <;> (try split) <;> omega
theorem sz_zero_of (xs : List Int) (h : ∀ j, xs.getD j 0 = 0) : sz xs = 0 := by
  induction xs with
  | nil => rfl
  | cons x xs ih =>
    have h0 : x = 0 := by simpa using h 0
    have h1 := ih fun j => by have := h (j + 1); simpa using this
    simp [sz, h0, h1]
theorem sz_unique (xs : List Int) (k : Nat) (hz : ∀ j, k ≤ j → xs.getD j 0 = 0) (hk : k = 0 ∨ xs.getD (k - 1) 0 ≠ 0) : sz xs = k := by
  induction xs generalizing k with
  | nil =>
    rcases hk with rfl | hk
    · rfl
    · simp at hk
  | cons x xs ih =>
    cases k with
    | zero => exact sz_zero_of _ fun j => hz j (Nat.zero_le _)
    | succ k =>
      have hz' : ∀ j, k ≤ j → xs.getD j 0 = 0 := fun j hj => by have := hz (j + 1) (by omega); simpa using this
      rcases hk with hk | hk
      · omega
      · simp only [Nat.add_sub_cancel] at hk
        cases k with
        | zero =>
          have hx : x ≠ 0 := by simpa using hk
          have : sz xs = 0 := sz_zero_of _ fun j => hz' j (Nat.zero_le _)
          simp [sz, this, hx]
        | succ k =>
          have := ih (k + 1) hz' (.inr (by simpa using hk))
          simp [sz, this]
theorem sz_past (xs : List Int) {j : Nat} (h : sz xs ≤ j) : xs.getD j 0 = 0 := by
  induction xs generalizing j with
  | nil => simp
  | cons x xs ih =>
    simp only [sz] at h
    by_cases h0 : sz xs = 0
    · rw [if_pos h0] at h
      cases j with
      | zero => by_cases hx : x = 0
                · simp [hx]
                · rw [if_neg hx] at h; omega
      | succ j => rw [List.getD_cons_succ]; exact ih (by omega)
    · rw [if_neg h0] at h
      cases j with
      | zero => omega
      | succ j => rw [List.getD_cons_succ]; exact ih (by omega)
theorem sz_last (xs : List Int) (h : 0 < sz xs) : xs.getD (sz xs - 1) 0 ≠ 0 := by
  induction xs with
  | nil => simp [sz] at h
  | cons x xs ih =>
    by_cases h0 : sz xs = 0
    · by_cases hx : x = 0
      · simp [sz, h0, hx] at h
      · simp [sz, h0, hx]
    · have := ih (by omega)
      simp only [sz, if_neg h0, Nat.add_sub_cancel]
      obtain ⟨m, hm⟩ : ∃ m, sz xs = m + 1 := ⟨sz xs - 1, by omega⟩
      rw [hm] at this ⊢
      simpa using this
theorem valB_drop_zero (b : Nat) (xs : List Int) {n : Nat} (h : sz xs ≤ n) : valB b (xs.drop n) = 0 := by
  rcases Nat.lt_or_ge n xs.length with hl | hl
  · obtain ⟨d, hd⟩ : ∃ d, xs.length = n + d := ⟨xs.length - n, by omega⟩
    clear hl
    induction d generalizing n with
    | zero => rw [List.drop_eq_nil_of_le (by omega)]; rfl
    | succ d ih =>
      rw [valB_drop, sz_past xs h, ih (n := n + 1) (by omega) (by omega)]; rfl
  · rw [List.drop_eq_nil_of_le hl]; rfl
theorem valB_take_sz (b : Nat) (xs : List Int) {n : Nat} (h : sz xs ≤ n) : valB b (xs.take n) = valB b xs := by
  rw [valB_split b xs n, valB_drop_zero b xs h]; simp
theorem length_trim (xs : List Int) : (trim xs).length = sz xs := by
  unfold trim; rw [List.length_take]; have := sz_le xs; omega
theorem trim_cons (x : Int) (xs : List Int) : trim (x :: xs) = if sz xs = 0 then (if x = 0 then [] else [x]) else x :: trim xs := by
  unfold trim
  simp only [sz]
  by_cases h0 : sz xs = 0
  · by_cases hx : x = 0 <;> simp [h0, hx]
  · simp [h0]
theorem valB_zero_iff {b : Nat} (hb : 0 < b) {xs : List Int} (h : Dg b xs) : valB b xs = 0 ↔ sz xs = 0 := by
  induction xs with
  | nil => simp [valB, sz]
  | cons x xs ih =>
    have h1 := h.head
    have h2 := ih h.tail
    simp only [valB, sz]
    by_cases h0 : sz xs = 0
    · rw [h2.2 h0, if_pos h0]
      by_cases hx : x = 0
      · simp [hx]
      · simp [hx]; omega
    · have : valB b xs ≠ 0 := fun e => h0 (h2.1 e)
      have : 0 < b * valB b xs := Nat.mul_pos hb (by omega)
      rw [if_neg h0]
      omega

/-! ### normalized lists -/
theorem wordsB_zero (b f : Nat) : wordsB b f 0 = [] := by cases f <;> simp [wordsB]
theorem wordsB_fuel {b : Nat} (hb : 2 ≤ b) (f n : Nat) (h : n ≤ f) : wordsB b f n = wordsB b n n := by
  induction n using Nat.strongRecOn generalizing f with
  | ind n ih =>
    cases n with
    | zero => rw [wordsB_zero, wordsB_zero]
    | succ n =>
      cases f with
      | zero => omega
      | succ f =>
        have hlt : (n + 1) / b < n + 1 := Nat.div_lt_self (by omega) (by omega)
        simp only [wordsB]
        rw [if_neg (by omega), if_neg (by omega), ih _ hlt f (by omega), ih _ hlt n (by omega)]
theorem wordsB_step {b : Nat} (hb : 2 ≤ b) {n : Nat} (h : n ≠ 0) : wordsB b n n = ((n % b : Nat) : Int) :: wordsB b (n / b) (n / b) := by
  obtain ⟨m, rfl⟩ : ∃ m, n = m + 1 := ⟨n - 1, by omega⟩
  have hlt : (m + 1) / b < m + 1 := Nat.div_lt_self (by omega) (by omega)
  rw [wordsB, if_neg (by omega), wordsB_fuel hb m _ (by omega)]
theorem wordsB_val {b : Nat} (hb : 2 ≤ b) {xs : List Int} (h : Dg b xs) : wordsB b (valB b xs) (valB b xs) = trim xs := by
  induction xs with
  | nil => rfl
  | cons x xs ih =>
    have h1 := h.head
    have h2 := ih h.tail
    have hz := valB_zero_iff (b := b) (by omega) h
    have hz' := valB_zero_iff (b := b) (by omega) h.tail
    rw [trim_cons]
    by_cases h0 : valB b (x :: xs) = 0
    · rw [h0]
      have e := hz.1 h0
      simp only [sz] at e
      by_cases e0 : sz xs = 0
      · rw [if_pos e0] at e ⊢
        by_cases ex : x = 0
        · rw [if_pos ex]; rfl
        · rw [if_neg ex] at e; omega
      · rw [if_neg e0] at e; omega
    · rw [wordsB_step hb h0]
      have em : valB b (x :: xs) % b = x.toNat := by rw [valB, Nat.add_mul_mod_self_left, Nat.mod_eq_of_lt (by omega)]
      have ed : valB b (x :: xs) / b = valB b xs := by rw [valB, Nat.add_mul_div_left _ _ (by omega), Nat.div_eq_of_lt (by omega), Nat.zero_add]
      rw [em, ed, h2, Int.toNat_of_nonneg h1.1]
      by_cases e0 : sz xs = 0
      · rw [if_pos e0]
        by_cases ex : x = 0
        · exfalso; apply h0; rw [valB, hz'.2 e0, ex]; rfl
        · rw [if_neg ex]; unfold trim; rw [e0]; rfl
      · rw [if_neg e0]
theorem wordsB_Dg {b : Nat} (hb : 2 ≤ b) (f n : Nat) : Dg b (wordsB b f n) := by
  induction f generalizing n with
  | zero => exact Dg.nil b
  | succ f ih =>
    rw [wordsB]
    split
    · exact Dg.nil b
    · have := Nat.mod_lt n (show 0 < b by omega)
      exact Dg.cons (by omega) (by omega) (ih _)
theorem valB_wordsB {b : Nat} (hb : 2 ≤ b) (n : Nat) : valB b (wordsB b n n) = n := by
  induction n using Nat.strongRecOn with
  | ind n ih =>
    by_cases h : n = 0
    · subst h; rfl
    · have hlt : n / b < n := Nat.div_lt_self (by omega) (by omega)
      rw [wordsB_step hb h, valB, ih _ hlt]
      have := Nat.div_add_mod n b
      rw [Int.toNat_natCast]
      omega
theorem two_le_W : 2 ≤ W := by unfold W; omega
theorem words_val {xs : List Int} (h : Dg W xs) : words (val xs) = trim xs := wordsB_val two_le_W h
theorem val_words (n : Nat) : val (words n) = n := valB_wordsB two_le_W n
theorem words_Dg (n : Nat) : Dg W (words n) := wordsB_Dg two_le_W n n
theorem words_U (n : Nat) : ∀ x ∈ words n, U x := U_Dg (words_Dg n)
theorem words_trim (n : Nat) : trim (words n) = words n := by
  rw [← words_val (words_Dg n), val_words]
theorem sz_words (n : Nat) : sz (words n) = (words n).length := by
  rw [← length_trim, words_trim]
theorem words_inj {m n : Nat} (h : words m = words n) : m = n := by rw [← val_words m, h, val_words]
theorem words_length (n k : Nat) (h : n < W ^ k) : (words n).length ≤ k := by
  rcases Nat.lt_or_ge k (words n).length with hl | hl
  · exfalso
    have h1 := val_words n
    have hs := sz_words n
    have hp : 0 < (words n).length := by omega
    have h2 := sz_last (words n) (by omega)
    rw [hs] at h2
    have h3 := valB_split W (words n) ((words n).length - 1)
    have h4 := valB_drop W (words n) ((words n).length - 1)
    have h5 : 0 < ((words n).getD ((words n).length - 1) 0).toNat := by
      have := (words_Dg n).at_ W_pos ((words n).length - 1)
      omega
    have h6 : W ^ k ≤ W ^ ((words n).length - 1) := Nat.pow_le_pow_right W_pos (by omega)
    have h7 : W ^ ((words n).length - 1) * 1 ≤ W ^ ((words n).length - 1) * valB W ((words n).drop ((words n).length - 1)) := Nat.mul_le_mul_left _ (by omega)
    unfold val at h1
    omega
  · exact hl

/-! ### order, bits -/
def cmpN (a b : Nat) : Int := if a < b then -1 else if b < a then 1 else 0
theorem cmpN_lt {a b : Nat} (h : a < b) : cmpN a b = -1 := by unfold cmpN; rw [if_pos h]
theorem cmpN_gt {a b : Nat} (h : b < a) : cmpN a b = 1 := by unfold cmpN; rw [if_neg (by omega), if_pos h]
theorem cmpN_eq (a : Nat) : cmpN a a = 0 := by unfold cmpN; rw [if_neg (by omega), if_neg (by omega)]
theorem cmpN_neg (a b : Nat) : cmpN a b < 0 ↔ a < b := by unfold cmpN; split <;> (try split) <;> omega
theorem val_lt_of_drop {xs ys : List Int} (hx : Dg W xs) (k : Nat) (h : valB W (xs.drop k) < valB W (ys.drop k)) : val xs < val ys := by
  unfold val
  rw [valB_split W xs k, valB_split W ys k]
  have h1 := valB_take_lt W_pos hx k
  have h2 : W ^ k * (valB W (xs.drop k) + 1) ≤ W ^ k * valB W (ys.drop k) := Nat.mul_le_mul_left _ h
  rw [Nat.mul_add] at h2
  omega
theorem drop_lt {xs ys : List Int} (hx : Dg W xs) {k : Nat} (h0 : valB W (xs.drop (k + 1)) = valB W (ys.drop (k + 1))) (h : xs.getD k 0 < ys.getD k 0) : valB W (xs.drop k) < valB W (ys.drop k) := by
  have := hx.at_ W_pos k
  rw [valB_drop W xs, valB_drop W ys, h0]
  omega
theorem drop_eq {xs ys : List Int} {k : Nat} (h0 : valB W (xs.drop (k + 1)) = valB W (ys.drop (k + 1))) (h : xs.getD k 0 = ys.getD k 0) : valB W (xs.drop k) = valB W (ys.drop k) := by
  rw [valB_drop W xs, valB_drop W ys, h0, h]

/-- the sign of what stands from place k on is not yet told -/
def SameFrom (xs ys : List Int) (k : Nat) : Prop := valB W (xs.drop k) = valB W (ys.drop k)
theorem sameFrom_0 {xs ys : List Int} (h : SameFrom xs ys 0) : val xs = val ys := by simpa [SameFrom, val] using h
theorem sameFrom_top {xs ys : List Int} {n : Nat} (hx : sz xs ≤ n) (hy : sz ys ≤ n) : SameFrom xs ys n := by
  unfold SameFrom; rw [valB_drop_zero W xs hx, valB_drop_zero W ys hy]

theorem blen_val {xs : List Int} (h : Dg W xs) (h0 : 0 < sz xs) : blen (val xs) = (sz xs - 1) * 64 + blen (xs.getD (sz xs - 1) 0).toNat := by
  obtain ⟨m, hm⟩ : ∃ m, sz xs = m + 1 := ⟨sz xs - 1, by omega⟩
  have hl := sz_last xs h0
  rw [hm, Nat.add_sub_cancel] at hl ⊢
  have e : val xs / W ^ m = (xs.getD m 0).toNat := by
    unfold val
    rw [valB_div W_pos h, valB_drop, valB_drop_zero W xs (by omega)]; simp
  have hg := h.at_ W_pos m
  have e2 : W ^ m = 2 ^ (m * 64) := by rw [W_pow, ← Nat.pow_mul, Nat.mul_comm]
  rw [e2] at e
  rw [blen_shr (n := val xs) (k := m * 64) (by rw [e]; omega), e]
  omega

def bitN (v : Nat) (i : Int) : Bool := decide (0 ≤ i) && decide (v / 2 ^ i.toNat % 2 = 1)
theorem bitN_neg (v : Nat) {i : Int} (h : i < 0) : bitN v i = false := by unfold bitN; simp; omega
theorem bitN_nat (v k : Nat) : bitN v k = decide (v / 2 ^ k % 2 = 1) := by unfold bitN; simp
theorem bit_word {xs : List Int} (h : Dg W xs) (k : Nat) : val xs / 2 ^ k % 2 = (xs.getD (k / 64) 0).toNat / 2 ^ (k % 64) % 2 := by
  have e : (2 : Nat) ^ k = W ^ (k / 64) * 2 ^ (k % 64) := by
    rw [W_pow, ← Nat.pow_mul, ← Nat.pow_add]; congr 1; omega
  rw [e, ← Nat.div_div_eq_div_mul]
  unfold val
  rw [← valB_digit W_pos h (k / 64)]
  generalize valB W xs / W ^ (k / 64) = y
  have hr : k % 64 < 64 := Nat.mod_lt _ (by omega)
  generalize k % 64 = r at hr
  have e2 : W = 2 ^ r * (2 * 2 ^ (63 - r)) := by
    rw [W_pow, ← Nat.pow_succ', ← Nat.pow_add]; congr 1; omega
  have e3 := Nat.div_add_mod y W
  have e4 : y = 2 ^ r * (2 * (2 ^ (63 - r) * (y / W))) + y % W := by
    have : W * (y / W) = 2 ^ r * (2 * (2 ^ (63 - r) * (y / W))) := by
      conv => lhs; lhs; rw [e2]
      grind
    omega
  generalize hz : 2 ^ (63 - r) * (y / W) = z at e4
  generalize y % W = m at *
  rw [e4, Nat.mul_add_div (Nat.two_pow_pos r), Nat.mul_add_mod]

/-- the largest n for which 2^n divides a number; 0 for 0 -/
def tzF : Nat → Nat → Nat
  | 0, _ => 0
  | f + 1, v => if v % 2 = 1 then 0 else tzF f (v / 2) + 1
def tz (v : Nat) : Nat := tzF (blen v) v
/-- all bits below k are 0 -/
def LowZero (v k : Nat) : Prop := ∀ j, j < k → v / 2 ^ j % 2 = 0
theorem lowZero_0 (v : Nat) : LowZero v 0 := fun j h => by omega
theorem LowZero.step {v k : Nat} (h : LowZero v k) (h0 : v / 2 ^ k % 2 ≠ 1) : LowZero v (k + 1) := fun j hj => by
  rcases Nat.lt_or_ge j k with hl | hl
  · exact h j hl
  · rw [show j = k by omega]; omega
theorem tzF_unique {f v k : Nat} (hk : k < f) (h : LowZero v k) (h1 : v / 2 ^ k % 2 = 1) : tzF f v = k := by
  induction k generalizing f v with
  | zero =>
    obtain ⟨f, rfl⟩ : ∃ g, f = g + 1 := ⟨f - 1, by omega⟩
    rw [tzF, if_pos (by simpa using h1)]
  | succ k ih =>
    obtain ⟨f, rfl⟩ : ∃ g, f = g + 1 := ⟨f - 1, by omega⟩
    have h2 := h 0 (by omega)
    rw [tzF, if_neg (by simp at h2; omega)]
    have ha : ∀ j, v / 2 / 2 ^ j = v / 2 ^ (j + 1) := fun j => by rw [Nat.div_div_eq_div_mul, Nat.pow_succ, Nat.mul_comm]
    rw [ih (by omega) (fun j hj => by rw [ha]; exact h (j + 1) (by omega)) (by rw [ha]; exact h1)]
theorem bit_lt_blen {v k : Nat} (h1 : v / 2 ^ k % 2 = 1) : k < blen v := by
  rcases Nat.lt_or_ge k (blen v) with h | h
  · exact h
  · have h2 := blen_lt v
    have h3 : 2 ^ blen v ≤ 2 ^ k := Nat.pow_le_pow_right (by omega) h
    rw [Nat.div_eq_of_lt (by omega)] at h1
    omega
theorem tz_unique {v k : Nat} (h : LowZero v k) (h1 : v / 2 ^ k % 2 = 1) : tz v = k := tzF_unique (bit_lt_blen h1) h h1
theorem lowZero_zero {v : Nat} (h : LowZero v (blen v)) : v = 0 := by
  rcases Nat.eq_zero_or_pos v with h0 | h0
  · exact h0
  · have hp := blen_pos h0
    have h2 := h (blen v - 1) (by omega)
    have h3 := blen_self h0
    have h4 := blen_lt v
    have h5 : v / 2 ^ (blen v - 1) = 1 := by
      apply Nat.div_eq_of_lt_le
      · omega
      · have : 2 ^ blen v = 2 ^ (blen v - 1) * 2 := by rw [← Nat.pow_succ]; congr 1; omega
        omega
    omega
theorem tz_zero : tz 0 = 0 := rfl

/-! ### sums and differences, word by word -/
/-- where a sum stands: zs holds the first k words, cy is carried -/
def AddInv (xs ys : List Int) (m k : Nat) (cy : Int) (zs : List Int) : Prop :=
  zs.length = m + 1 ∧ Dg W zs ∧ U cy ∧ valB W zs + W ^ k * cy.toNat = valB W (xs.take k) + valB W (ys.take k) ∧ ∀ j, k ≤ j → zs.getD j 0 = 0
theorem addInv_0 (xs ys : List Int) (m : Nat) : AddInv xs ys m 0 0 (List.replicate (m + 1) 0) := by
  refine ⟨by simp, Dg.zeros W_pos _, U_0, ?_, fun j _ => ?_⟩
  · rw [valB_zeros]; simp [valB]
  · simp [List.getD_eq_getElem?_getD, List.getElem?_replicate]; split <;> rfl
theorem lohi {n : Int} (h : 0 ≤ n) : n.toNat = (lo64 n).toNat + W * (hi64 n).toNat := by unfold lo64 hi64 W; omega
theorem getD_set_self (zs : List Int) {k : Nat} (h : k < zs.length) (x : Int) : (zs.set k x).getD k 0 = x := by
  simp [List.getD_eq_getElem?_getD, h]
theorem getD_set_ne (zs : List Int) {k j : Nat} (h : k ≠ j) (x : Int) : (zs.set k x).getD j 0 = zs.getD j 0 := by
  simp [List.getD_eq_getElem?_getD, List.getElem?_set_ne h]
theorem addInv_step {xs ys : List Int} {m k : Nat} {cy : Int} {zs : List Int} (hx : Dg W xs) (hy : Dg W ys) (h : AddInv xs ys m k cy zs) (hk : k < m) :
    AddInv xs ys m (k + 1) (hi64 (xs.getD k 0 + ys.getD k 0 + cy)) (zs.set k (lo64 (xs.getD k 0 + ys.getD k 0 + cy))) := by
  obtain ⟨h1, h2, h3, h4, h5⟩ := h
  have dx := hx.at_ W_pos k
  have dy := hy.at_ W_pos k
  have hs := valB_set W zs k (by omega) (lo64 (xs.getD k 0 + ys.getD k 0 + cy))
  rw [h5 k (Nat.le_refl _)] at hs
  have hlo := U_lo (xs.getD k 0 + ys.getD k 0 + cy)
  have hn : 0 ≤ xs.getD k 0 + ys.getD k 0 + cy := by have := h3.1; omega
  have hsum : (xs.getD k 0 + ys.getD k 0 + cy).toNat = (xs.getD k 0).toNat + (ys.getD k 0).toNat + cy.toNat := by have := h3.1; omega
  have hlh := lohi hn
  refine ⟨by simpa using h1, h2.set k hlo.1 (by unfold U at hlo; unfold W; omega), ?_, ?_, fun j hj => ?_⟩
  · unfold U at *; unfold hi64; unfold W at dx dy; omega
  · rw [hsum] at hlh
    rw [valB_take_succ W xs, valB_take_succ W ys]
    generalize (hi64 (xs.getD k 0 + ys.getD k 0 + cy)).toNat = H at *
    generalize (lo64 (xs.getD k 0 + ys.getD k 0 + cy)).toNat = L at *
    generalize (xs.getD k 0).toNat = X at *
    generalize (ys.getD k 0).toNat = Y at *
    generalize cy.toNat = C at *
    rw [Nat.pow_succ]
    have e1 : W ^ k * W * H = W ^ k * (W * H) := by rw [Nat.mul_assoc]
    have e2 : W ^ k * (X + Y + C) = W ^ k * (L + W * H) := by rw [hlh]
    rw [Nat.mul_add, Nat.mul_add, Nat.mul_add] at e2
    rw [e1]
    simp only [Int.toNat_zero, Nat.mul_zero, Nat.add_zero] at hs
    omega
  · rw [getD_set_ne _ (by omega)]; exact h5 j (by omega)
theorem addInv_end {xs ys : List Int} {m : Nat} {cy : Int} {zs : List Int} (h : AddInv xs ys m m cy zs) (h1 : sz xs ≤ m) (h2 : sz ys ≤ m) :
    val (zs.set m cy) = val xs + val ys ∧ Dg W (zs.set m cy) ∧ (zs.set m cy).length = m + 1 := by
  obtain ⟨g1, g2, g3, g4, g5⟩ := h
  have hs := valB_set W zs m (by omega) cy
  rw [g5 m (Nat.le_refl _)] at hs
  rw [valB_take_sz W xs h1, valB_take_sz W ys h2] at g4
  refine ⟨?_, g2.set m g3.1 (by have := g3.2; unfold W; omega), by simpa using g1⟩
  unfold val
  simp only [Int.toNat_zero, Nat.mul_zero, Nat.add_zero] at hs
  omega
/-- where a difference stands -/
def SubInv (xs ys : List Int) (m k : Nat) (cy : Int) (zs : List Int) : Prop :=
  zs.length = m ∧ Dg W zs ∧ (0 ≤ cy ∧ cy ≤ 1) ∧ valB W zs + valB W (ys.take k) = valB W (xs.take k) + W ^ k * cy.toNat ∧ ∀ j, k ≤ j → zs.getD j 0 = 0
theorem subInv_0 (xs ys : List Int) (m : Nat) : SubInv xs ys m 0 0 (List.replicate m 0) := by
  refine ⟨by simp, Dg.zeros W_pos _, by omega, ?_, fun j _ => ?_⟩
  · rw [valB_zeros]; simp [valB]
  · simp [List.getD_eq_getElem?_getD, List.getElem?_replicate]; split <;> rfl
theorem subInv_step {xs ys : List Int} {m k : Nat} {cy : Int} {zs : List Int} (hx : Dg W xs) (hy : Dg W ys) (h : SubInv xs ys m k cy zs) (hk : k < m) :
    SubInv xs ys m (k + 1) (bor (xs.getD k 0 - ys.getD k 0 - cy)) (zs.set k (lo64 (xs.getD k 0 - ys.getD k 0 - cy))) := by
  obtain ⟨h1, h2, h3, h4, h5⟩ := h
  have dx := hx.at_ W_pos k
  have dy := hy.at_ W_pos k
  have hs := valB_set W zs k (by omega) (lo64 (xs.getD k 0 - ys.getD k 0 - cy))
  rw [h5 k (Nat.le_refl _)] at hs
  have hlo := U_lo (xs.getD k 0 - ys.getD k 0 - cy)
  have hb : 0 ≤ bor (xs.getD k 0 - ys.getD k 0 - cy) ∧ bor (xs.getD k 0 - ys.getD k 0 - cy) ≤ 1 := by unfold bor; unfold W at dx dy; omega
  have hsum : (lo64 (xs.getD k 0 - ys.getD k 0 - cy)).toNat + (ys.getD k 0).toNat + cy.toNat = (xs.getD k 0).toNat + W * (bor (xs.getD k 0 - ys.getD k 0 - cy)).toNat := by
    unfold lo64 bor; unfold W at *; omega
  refine ⟨by simpa using h1, h2.set k hlo.1 (by unfold U at hlo; unfold W; omega), hb, ?_, fun j hj => ?_⟩
  · rw [valB_take_succ W xs, valB_take_succ W ys]
    generalize (bor (xs.getD k 0 - ys.getD k 0 - cy)).toNat = H at *
    generalize (lo64 (xs.getD k 0 - ys.getD k 0 - cy)).toNat = L at *
    generalize (xs.getD k 0).toNat = X at *
    generalize (ys.getD k 0).toNat = Y at *
    generalize cy.toNat = C at *
    rw [Nat.pow_succ]
    have e1 : W ^ k * W * H = W ^ k * (W * H) := by rw [Nat.mul_assoc]
    have e2 : W ^ k * (L + Y + C) = W ^ k * (X + W * H) := by rw [hsum]
    rw [Nat.mul_add, Nat.mul_add, Nat.mul_add] at e2
    rw [e1]
    simp only [Int.toNat_zero, Nat.mul_zero, Nat.add_zero] at hs
    omega
  · rw [getD_set_ne _ (by omega)]; exact h5 j (by omega)
theorem subInv_end {xs ys : List Int} {m : Nat} {cy : Int} {zs : List Int} (hx : Dg W xs) (hy : Dg W ys) (h : SubInv xs ys m m cy zs) (h1 : sz xs ≤ m) (hle : val ys ≤ val xs) :
    val zs = val xs - val ys := by
  obtain ⟨g1, g2, g3, g4, g5⟩ := h
  unfold val at *
  rw [valB_take_sz W xs h1] at g4
  have b1 := valB_lt g2
  rw [g1] at b1
  have b2 : valB W xs < W ^ m := by
    rw [← valB_take_sz W xs h1]; exact valB_take_lt W_pos hx m
  have e := valB_split W ys m
  have b3 := valB_take_lt W_pos hy m
  have hd : valB W (ys.drop m) = 0 := by
    rcases Nat.eq_zero_or_pos (valB W (ys.drop m)) with h0 | h0
    · exact h0
    · have : W ^ m * 1 ≤ W ^ m * valB W (ys.drop m) := Nat.mul_le_mul_left _ h0
      omega
  rw [hd] at e
  have hc : cy.toNat = 0 ∨ cy.toNat = 1 := by omega
  rcases hc with hc | hc <;> rw [hc] at g4 <;> simp only [Nat.mul_zero, Nat.mul_one, Nat.add_zero] at * <;> omega

/-! ### shifts, word by word -/
/-- by how many bits Shl shifts -/
def clampS (n : Int) : Nat := if n < 0 then 0 else if n > 65536 then 65536 else n.toNat
theorem clampS_le (n : Int) : clampS n ≤ 65536 := by unfold clampS; split <;> (try split) <;> omega
theorem clampS_neg {n : Int} (h : n < 0) : clampS n = 0 := by unfold clampS; rw [if_pos h]
theorem clampS_big {n : Int} (h : 65536 < n) : clampS n = 65536 := by unfold clampS; rw [if_neg (by omega), if_pos h]
theorem clampS_mid {n : Int} (h : 0 ≤ n) (h' : n ≤ 65536) : clampS n = n.toNat := by unfold clampS; rw [if_neg (by omega), if_neg (by omega)]
theorem W_split {s : Nat} (hs : s ≤ 64) : W = 2 ^ s * 2 ^ (64 - s) := by
  rw [W_pow, ← Nat.pow_add]; congr 1; omega
def ShlInv (xs : List Int) (K skip s k : Nat) (zs : List Int) : Prop :=
  zs.length = K + skip + 1 ∧ Dg W zs ∧ valB W zs = W ^ skip * (2 ^ s * valB W (xs.take k)) ∧ zs.getD (k + skip) 0 < ((2 ^ s : Nat) : Int) ∧ ∀ j, k + skip < j → zs.getD j 0 = 0
theorem getD_zeros (n j : Nat) : (List.replicate n (0 : Int)).getD j 0 = 0 := by
  simp [List.getD_eq_getElem?_getD, List.getElem?_replicate]; split <;> rfl
theorem shlInv_0 (xs : List Int) (K skip s : Nat) : ShlInv xs K skip s 0 (List.replicate (K + skip + 1) 0) := by
  refine ⟨by simp, Dg.zeros W_pos _, ?_, ?_, fun j _ => getD_zeros _ _⟩
  · rw [valB_zeros]; simp [valB]
  · rw [getD_zeros]; have := Nat.two_pow_pos s; omega
theorem shl_digit {x d : Int} {s : Nat} (hs : s < 64) (hx : U x) (hd : 0 ≤ d) (hd2 : d < ((2 ^ s : Nat) : Int)) :
    ∃ v : Nat, bits BinOp.or IntKind.u64 d (IntKind.u64.wrap (x * 2 ^ s)) = (v : Int) ∧ v < W ∧ v = d.toNat + x.toNat * 2 ^ s % W ∧ x.toNat * 2 ^ s = x.toNat * 2 ^ s % W + W * (x.toNat / 2 ^ (64 - s)) := by
  obtain ⟨n, rfl⟩ := Int.eq_ofNat_of_zero_le hx.1
  obtain ⟨e, rfl⟩ := Int.eq_ofNat_of_zero_le hd
  have hW := W_split (s := s) (by omega)
  have p0 : 0 < 2 ^ s := Nat.two_pow_pos s
  have hm : n * 2 ^ s % W < W := Nat.mod_lt _ W_pos
  have hm0 : n * 2 ^ s % W % 2 ^ s = 0 := by
    rw [hW, Nat.mod_mul_right_mod, Nat.mul_mod_left]
  have hlt : n * 2 ^ s % W + 2 ^ s ≤ W := by
    have e1 : n * 2 ^ s % W = 2 ^ s * (n * 2 ^ s % W / 2 ^ s) := by
      have := Nat.div_add_mod (n * 2 ^ s % W) (2 ^ s); omega
    have e2 : n * 2 ^ s % W / 2 ^ s < 2 ^ (64 - s) := by
      rw [Nat.div_lt_iff_lt_mul p0, Nat.mul_comm (2 ^ (64 - s)), ← hW]; exact hm
    have e3 : 2 ^ s * (n * 2 ^ s % W / 2 ^ s + 1) ≤ 2 ^ s * 2 ^ (64 - s) := Nat.mul_le_mul_left _ e2
    rw [← hW, Nat.mul_add] at e3
    omega
  have hcomm : ∀ a b : Nat, a < W → b < W → bits BinOp.or IntKind.u64 (a : Int) (b : Int) = bits BinOp.or IntKind.u64 (b : Int) (a : Int) := fun a b ha hb => by
    rw [u64_or_nat a b (by unfold W at ha; omega) (by unfold W at hb; omega), u64_or_nat b a (by unfold W at hb; omega) (by unfold W at ha; omega), Nat.or_comm]
  have he : e < 2 ^ s := by omega
  refine ⟨e + n * 2 ^ s % W, ?_, by omega, by simp, ?_⟩
  · rw [cast_shl, wrapU]
    have ew : ((n * 2 ^ s : Nat) : Int) % 18446744073709551616 = ((n * 2 ^ s % W : Nat) : Int) := by rw [Int.natCast_emod]; rfl
    rw [ew, hcomm _ _ (by omega) hm]
    generalize n * 2 ^ s % W = a at *
    have := shl_or a e s (by unfold W at hm; omega) hm0 he (by unfold W at hlt; omega)
    rw [wrapU_lo, lo_U (by unfold U; unfold W at hm; omega)] at this
    rw [this, Nat.add_comm]
  · simp only [Int.toNat_natCast]
    have e5 : n * 2 ^ s / W = n / 2 ^ (64 - s) := by rw [hW, Nat.mul_comm (2 ^ s), Nat.mul_div_mul_right _ _ p0]
    have := Nat.div_add_mod (n * 2 ^ s) W
    rw [e5] at this
    omega
theorem shl_high {X s : Nat} (hs : s < 64) (hX : X < W) : X / 2 ^ (64 - s) < 2 ^ s ∧ X / 2 ^ (64 - s) < W := by
  have hW := W_split (s := s) (by omega)
  refine ⟨?_, Nat.lt_of_le_of_lt (Nat.div_le_self _ _) hX⟩
  rw [Nat.div_lt_iff_lt_mul (Nat.two_pow_pos _), ← hW]
  exact hX
theorem shl_val (b : Nat) (zs : List Int) (k : Nat) (hk : k + 1 < zs.length) (v Hh : Nat) (h0 : zs.getD (k + 1) 0 = 0) :
    valB b ((zs.set k (v : Int)).set (k + 1) (Hh : Int)) + b ^ k * (zs.getD k 0).toNat = valB b zs + b ^ k * v + b ^ (k + 1) * Hh := by
  have s1 := valB_set b zs k (by omega) (v : Int)
  have s2 := valB_set b (zs.set k (v : Int)) (k + 1) (by rw [List.length_set]; omega) (Hh : Int)
  rw [getD_set_ne _ (by omega), h0] at s2
  rw [Int.toNat_natCast] at s1 s2
  rw [show Int.toNat 0 = 0 from rfl, Nat.mul_zero, Nat.add_zero] at s2
  rw [s2, ← s1]
  omega
theorem shl_algebra (b P Q T V X L Hh d v A : Nat) (h2 : v = d + L) (h3 : X * T = L + b * Hh) (g3 : A = P * (T * V)) {B : Nat} (key : B + Q * P * d = A + Q * P * v + Q * P * b * Hh) :
    B = P * (T * (V + Q * X)) := by
  subst h2 g3
  have e : P * (T * (V + Q * X)) = P * (T * V) + Q * P * (X * T) := by grind
  rw [e, h3]
  have e1 : Q * P * (d + L) = Q * P * d + Q * P * L := by grind
  have e2 : Q * P * (L + b * Hh) = Q * P * L + Q * P * b * Hh := by grind
  rw [e1] at key
  rw [e2]
  omega
theorem shlInv_step {xs : List Int} {K skip s k : Nat} {zs : List Int} (h : ShlInv xs K skip s k zs) (hk : k < K) {v X d L Hh : Nat} (hX : X = (xs.getD k 0).toNat) (hd : d = (zs.getD (k + skip) 0).toNat)
    (h1 : v < W) (h2 : v = d + L) (h3 : X * 2 ^ s = L + W * Hh) (h4 : Hh < 2 ^ s) (h5 : Hh < W) :
    ShlInv xs K skip s (k + 1) ((zs.set (k + skip) (v : Int)).set (k + skip + 1) (Hh : Int)) := by
  obtain ⟨g1, g2, g3, g4, g5⟩ := h
  have key := shl_val W zs (k + skip) (by omega) v Hh (g5 (k + skip + 1) (by omega))
  rw [← hd, Nat.pow_succ, Nat.pow_add] at key
  refine ⟨by simp; omega, (g2.set _ (Int.natCast_nonneg _) (Int.ofNat_lt.2 h1)).set _ (Int.natCast_nonneg _) (Int.ofNat_lt.2 h5), ?_, ?_, fun j hj => ?_⟩
  · rw [valB_take_succ, ← hX]
    exact shl_algebra W _ _ _ _ _ _ _ _ _ _ h2 h3 g3 key
  · rw [show k + 1 + skip = k + skip + 1 by omega, getD_set_self _ (by rw [List.length_set]; omega)]
    exact Int.ofNat_lt.2 h4
  · rw [getD_set_ne _ (by omega), getD_set_ne _ (by omega)]; exact g5 j (by omega)
theorem pow_shift (m : Nat) : W ^ (m / 64) * 2 ^ (m % 64) = 2 ^ m := by
  rw [W_pow, ← Nat.pow_mul, ← Nat.pow_add]; congr 1; omega
theorem shlInv_end {xs : List Int} {K m : Nat} {zs : List Int} (h : ShlInv xs K (m / 64) (m % 64) K zs) (hK : sz xs ≤ K) : val zs = val xs * 2 ^ m := by
  obtain ⟨_, _, g3, _, _⟩ := h
  unfold val
  rw [g3, valB_take_sz W xs hK, ← Nat.mul_assoc, pow_shift, Nat.mul_comm]

def ShrInv (xs : List Int) (N skip s k : Nat) (zs : List Int) : Prop :=
  zs.length = N ∧ Dg W zs ∧ valB W zs + W ^ k * (valB W (xs.drop (skip + k)) / 2 ^ s) = valB W (xs.drop skip) / 2 ^ s ∧ ∀ j, k ≤ j → zs.getD j 0 = 0
theorem shrInv_0 (xs : List Int) (N skip s : Nat) : ShrInv xs N skip s 0 (List.replicate N 0) := by
  refine ⟨by simp, Dg.zeros W_pos _, ?_, fun j _ => getD_zeros _ _⟩
  rw [valB_zeros]; simp
theorem shr_half (b S T x y Y1 Y2 : Nat) (hb : b = S * T) (hS : 0 < S) (e1 : Y1 = y + b * Y2) : (x + b * Y1) / S = x / S + T * (y % S) + b * (Y1 / S) := by
  have h1 : Y1 % S = y % S := by rw [e1, hb, Nat.mul_assoc, Nat.add_mul_mod_self_left]
  have h2 := Nat.div_add_mod Y1 S
  rw [h1] at h2
  have h3 : x + b * Y1 = x + S * (T * Y1) := by rw [hb, Nat.mul_assoc]
  rw [h3, Nat.add_mul_div_left _ _ hS]
  have h4 : T * Y1 = T * (S * (Y1 / S)) + T * (y % S) := by rw [← Nat.mul_add, h2]
  have h5 : b * (Y1 / S) = T * (S * (Y1 / S)) := by rw [hb, Nat.mul_comm S T, Nat.mul_assoc]
  omega
theorem shr_digit {x y : Int} {s : Nat} (hs : s < 64) (hx : U x) (hy : U y) :
    ∃ v : Nat, bits BinOp.or IntKind.u64 (x / 2 ^ s) (IntKind.u64.wrap (y * 2 ^ (64 - s))) = (v : Int) ∧ v < W ∧ v = x.toNat / 2 ^ s + 2 ^ (64 - s) * (y.toNat % 2 ^ s) := by
  obtain ⟨n, rfl⟩ := Int.eq_ofNat_of_zero_le hx.1
  obtain ⟨e, rfl⟩ := Int.eq_ofNat_of_zero_le hy.1
  have hW := W_split (s := s) (by omega)
  have p0 : 0 < 2 ^ s := Nat.two_pow_pos s
  have q0 : 0 < 2 ^ (64 - s) := Nat.two_pow_pos _
  have hm : e % 2 ^ s < 2 ^ s := Nat.mod_lt _ p0
  have hn : n < W := by have := hx.2; unfold W; omega
  have hl : n / 2 ^ s < 2 ^ (64 - s) := by rw [Nat.div_lt_iff_lt_mul p0, Nat.mul_comm, ← hW]; exact hn
  have e1 : e * 2 ^ (64 - s) % W = 2 ^ (64 - s) * (e % 2 ^ s) := by rw [hW, Nat.mul_mod_mul_right, Nat.mul_comm]
  have hlt : 2 ^ (64 - s) * (e % 2 ^ s) + 2 ^ (64 - s) ≤ W := by
    have : 2 ^ (64 - s) * (e % 2 ^ s + 1) ≤ 2 ^ (64 - s) * 2 ^ s := Nat.mul_le_mul_left _ hm
    rw [Nat.mul_comm (2 ^ (64 - s)) (2 ^ s), ← hW, Nat.mul_add] at this
    omega
  have hle : n / 2 ^ s < W := Nat.lt_of_le_of_lt (Nat.div_le_self _ _) hn
  refine ⟨n / 2 ^ s + 2 ^ (64 - s) * (e % 2 ^ s), ?_, by omega, by simp⟩
  rw [cast_shl, cast_shr, wrapU]
  have ew : ((e * 2 ^ (64 - s) : Nat) : Int) % 18446744073709551616 = ((2 ^ (64 - s) * (e % 2 ^ s) : Nat) : Int) := by rw [← e1, Int.natCast_emod]; rfl
  rw [ew]
  have h0 : 2 ^ (64 - s) * (e % 2 ^ s) % 2 ^ (64 - s) = 0 := Nat.mul_mod_right _ _
  generalize 2 ^ (64 - s) * (e % 2 ^ s) = a at *
  generalize n / 2 ^ s = b at *
  have hcomm : bits BinOp.or IntKind.u64 (b : Int) (a : Int) = bits BinOp.or IntKind.u64 (a : Int) (b : Int) := by
    rw [u64_or_nat a b (by unfold W at hlt; omega) (by unfold W at hle; omega), u64_or_nat b a (by unfold W at hle; omega) (by unfold W at hlt; omega), Nat.or_comm]
  have := shl_or a b (64 - s) (by unfold W at hlt; omega) h0 hl (by unfold W at hle; omega)
  rw [wrapU_lo, lo_U (by unfold U; unfold W at hlt; omega)] at this
  rw [hcomm, this, Nat.add_comm]
theorem set_val (b : Nat) (zs : List Int) (k : Nat) (hk : k < zs.length) (v : Nat) (h0 : zs.getD k 0 = 0) : valB b (zs.set k (v : Int)) = valB b zs + b ^ k * v := by
  have s1 := valB_set b zs k hk (v : Int)
  rw [h0, Int.toNat_natCast, show Int.toNat 0 = 0 from rfl, Nat.mul_zero, Nat.add_zero] at s1
  exact s1
theorem shr_algebra (b P A B v R R' Q : Nat) (key : B = A + P * v) (h : A + P * R = Q) (hR : R = v + b * R') : B + P * b * R' = Q := by
  subst key hR h
  rw [Nat.mul_add, Nat.mul_assoc]; omega
theorem shrInv_step {xs : List Int} {N skip s k : Nat} {zs : List Int} (hs : s < 64) (hx : Dg W xs) (h : ShrInv xs N skip s k zs) (hk : k < N) {v : Nat} (h1 : v < W)
    (h2 : v = (xs.getD (skip + k) 0).toNat / 2 ^ s + 2 ^ (64 - s) * ((xs.getD (skip + k + 1) 0).toNat % 2 ^ s)) : ShrInv xs N skip s (k + 1) (zs.set k (v : Int)) := by
  obtain ⟨g1, g2, g3, g4⟩ := h
  have key := set_val W zs k (by omega) v (g4 k (Nat.le_refl _))
  have hR := shr_half W (2 ^ s) (2 ^ (64 - s)) (xs.getD (skip + k) 0).toNat (xs.getD (skip + k + 1) 0).toNat _ _ (W_split (by omega)) (Nat.two_pow_pos s) (valB_drop W xs (skip + k + 1))
  rw [← valB_drop, ← h2] at hR
  refine ⟨by simpa using g1, g2.set _ (Int.natCast_nonneg _) (Int.ofNat_lt.2 h1), ?_, fun j hj => ?_⟩
  · rw [Nat.pow_succ]
    exact shr_algebra W _ _ _ _ _ _ _ key g3 hR
  · rw [getD_set_ne _ (by omega)]; exact g4 j (by omega)
theorem shrInv_end {xs : List Int} {K m : Nat} {zs : List Int} (hx : Dg W xs) (hK : sz xs ≤ K) (hm : m / 64 ≤ K) (h : ShrInv xs (K - m / 64) (m / 64) (m % 64) (K - m / 64) zs) : val zs = val xs / 2 ^ m := by
  obtain ⟨_, _, g3, _⟩ := h
  rw [show m / 64 + (K - m / 64) = K by omega, valB_drop_zero W xs hK, Nat.zero_div, Nat.mul_zero, Nat.add_zero] at g3
  unfold val
  rw [g3, ← valB_div W_pos hx, Nat.div_div_eq_div_mul, pow_shift]
theorem shr_zero {xs : List Int} {m : Nat} (hx : Dg W xs) (h : sz xs ≤ m / 64) : val xs / 2 ^ m = 0 := by
  unfold val
  rw [← pow_shift, ← Nat.div_div_eq_div_mul, valB_div W_pos hx, valB_drop_zero W xs h, Nat.zero_div]

/-! ### half words -/
def H : Nat := 4294967296
theorem H_pos : 0 < H := by unfold H; omega
theorem two_le_H : 2 ≤ H := by unfold H; omega
theorem W_HH : W = H * H := by decide
def hwords (n : Nat) : List Int := wordsB H n n
def hl : List Int → List Int
  | [] => []
  | x :: xs => x % 4294967296 :: x / 4294967296 :: hl xs
theorem hl_append (xs ys : List Int) : hl (xs ++ ys) = hl xs ++ hl ys := by
  induction xs with
  | nil => rfl
  | cons x xs ih => simp [hl, ih]
theorem hl_length (xs : List Int) : (hl xs).length = 2 * xs.length := by
  induction xs with
  | nil => rfl
  | cons x xs ih => simp only [hl, List.length_cons, ih]; omega
theorem hl_Dg {xs : List Int} (h : Dg W xs) : Dg H (hl xs) := by
  induction xs with
  | nil => exact Dg.nil _
  | cons x xs ih =>
    have := h.head
    exact Dg.cons (by omega) (by unfold H; omega) (Dg.cons (by omega) (by unfold H; unfold W at this; omega) (ih h.tail))
theorem pair_val (b p q V : Nat) : p + b * (q + b * V) = p + b * q + b * b * V := by rw [Nat.mul_add, Nat.mul_assoc]; omega
theorem valB_hl {xs : List Int} (h : Dg W xs) : valB H (hl xs) = valB W xs := by
  induction xs with
  | nil => rfl
  | cons x xs ih =>
    have h1 := h.head
    rw [hl, valB, valB, ih h.tail, valB, pair_val, ← W_HH]
    congr 1
    unfold H
    omega
theorem Dg.mono {b c : Nat} {xs : List Int} (h : Dg b xs) (hc : b ≤ c) : Dg c xs := fun x hx => by have := h x hx; omega
theorem H_le_W : H ≤ W := by unfold H W; omega
theorem hl_trim {xs : List Int} (h : Dg W xs) : words (val (hl xs)) = hwords (val xs) := by
  have hd := hl_Dg h
  rw [words_val (hd.mono H_le_W), ← wordsB_val two_le_H hd, valB_hl h]
  rfl
theorem hwords_Dg (n : Nat) : Dg H (hwords n) := wordsB_Dg two_le_H n n
theorem hwords_U (n : Nat) : ∀ x ∈ hwords n, U x := U_Dg ((hwords_Dg n).mono H_le_W)
theorem valH_hwords (n : Nat) : valB H (hwords n) = n := valB_wordsB two_le_H n
theorem hwords_len {n : Nat} {xs : List Int} (h : Dg W xs) (he : val xs = n) : (hwords n).length ≤ 2 * xs.length := by
  subst he
  rw [← hl_trim h, words_val ((hl_Dg h).mono H_le_W), length_trim, ← hl_length]
  exact sz_le _

/-- where whole words out of half words stand -/
def WholeInv (hs : List Int) (k : Nat) (zs : List Int) : Prop := zs.length = k ∧ Dg W zs ∧ valB W zs = valB H (hs.take (2 * k))
theorem wholeInv_0 (hs : List Int) : WholeInv hs 0 [] := ⟨rfl, Dg.nil _, by simp [valB]⟩
theorem pow_HH (b k : Nat) : (b * b) ^ k = b ^ (2 * k) := by rw [← Nat.pow_two, ← Nat.pow_mul]
theorem whole_alg (b P V x y : Nat) : V + P * (x + b * y) = V + P * x + P * b * y := by rw [Nat.mul_add, Nat.mul_assoc]; omega
theorem wholeInv_step {hs : List Int} {k : Nat} {zs : List Int} (hd : Dg H hs) (h : WholeInv hs k zs) : WholeInv hs (k + 1) (zs ++ [hs.getD (2 * k) 0 + hs.getD (2 * k + 1) 0 * 4294967296]) := by
  obtain ⟨h1, h2, h3⟩ := h
  have d0 := hd.at_ H_pos (2 * k)
  have d1 := hd.at_ H_pos (2 * k + 1)
  unfold H at d0 d1
  refine ⟨by simp [h1], h2.snoc (by omega) (by unfold W; omega), ?_⟩
  rw [valB_snoc, h1, h3, W_HH, pow_HH, show 2 * (k + 1) = 2 * k + 1 + 1 by omega, valB_take_succ, valB_take_succ, Nat.pow_succ]
  have e : (hs.getD (2 * k) 0 + hs.getD (2 * k + 1) 0 * 4294967296).toNat = (hs.getD (2 * k) 0).toNat + H * (hs.getD (2 * k + 1) 0).toNat := by unfold H; omega
  rw [e]
  exact whole_alg H _ _ _ _
theorem wholeInv_end {hs : List Int} {k : Nat} {zs : List Int} (h : WholeInv hs k zs) (hk : hs.length ≤ 2 * k) : val zs = valB H hs := by
  obtain ⟨_, _, h3⟩ := h
  unfold val
  rw [h3, List.take_of_length_le hk]
theorem whole_or {x y : Int} (hx : 0 ≤ x ∧ x < (H : Int)) (hy : 0 ≤ y ∧ y < (H : Int)) : bits BinOp.or IntKind.u64 x (IntKind.u64.wrap (y * 4294967296)) = x + y * 4294967296 := by
  unfold H at hx hy
  obtain ⟨a, rfl⟩ := Int.eq_ofNat_of_zero_le hx.1
  obtain ⟨b, rfl⟩ := Int.eq_ofNat_of_zero_le hy.1
  rw [wrapU_lo, lo_U (by unfold U; omega)]
  have e : (b : Int) * 4294967296 = ((b * 4294967296 : Nat) : Int) := by omega
  rw [e, u64_or_nat a (b * 4294967296) (by omega) (by omega), Nat.or_comm, ← u64_or_nat (b * 4294967296) a (by omega) (by omega), ← e, or32 (by unfold U; omega) (by omega) (by omega) (by omega)]
  omega

/-- where a difference of half words stands -/
def HSubInv (xs ys : List Int) (k : Nat) (cy : Int) (zs : List Int) : Prop :=
  zs.length = k ∧ Dg H zs ∧ (0 ≤ cy ∧ cy ≤ 1) ∧ valB H zs + valB H (ys.take k) = valB H (xs.take k) + H ^ k * cy.toNat
theorem hSubInv_0 (xs ys : List Int) : HSubInv xs ys 0 0 [] := ⟨rfl, Dg.nil _, by omega, by simp [valB]⟩
theorem hsub_alg (b P A B X Y C L R Z : Nat) (h : Z + B = A + P * C) (e : L + Y + C = X + b * R) : Z + P * L + (B + P * Y) = A + P * X + P * b * R := by
  have h1 : P * (L + Y + C) = P * (X + b * R) := by rw [e]
  rw [Nat.mul_add, Nat.mul_add, Nat.mul_add] at h1
  rw [Nat.mul_assoc]
  omega
theorem hSubInv_step {xs ys : List Int} {k : Nat} {cy : Int} {zs : List Int} (hx : Dg H xs) (hy : Dg H ys) (h : HSubInv xs ys k cy zs) :
    HSubInv xs ys (k + 1) (1 - (4294967296 + xs.getD k 0 - ys.getD k 0 - cy) / 4294967296) (zs ++ [(4294967296 + xs.getD k 0 - ys.getD k 0 - cy) % 4294967296]) := by
  obtain ⟨h1, h2, h3, h4⟩ := h
  have dx := hx.at_ H_pos k
  have dy := hy.at_ H_pos k
  unfold H at dx dy
  refine ⟨by simp [h1], h2.snoc (by omega) (by unfold H; omega), by omega, ?_⟩
  rw [valB_snoc, h1, valB_take_succ, valB_take_succ, Nat.pow_succ]
  exact hsub_alg H _ _ _ _ _ _ _ _ _ h4 (by unfold H; omega)
theorem hSubInv_end {xs ys : List Int} {m : Nat} {cy : Int} {zs : List Int} (hx : Dg H xs) (hy : Dg H ys) (h : HSubInv xs ys m cy zs) (hm : xs.length = m) (hle : valB H ys ≤ valB H xs) : valB H zs = valB H xs - valB H ys := by
  obtain ⟨g1, g2, g3, g4⟩ := h
  rw [show xs.take m = xs from List.take_of_length_le (by omega)] at g4
  have b1 := valB_lt g2
  rw [g1] at b1
  have b2 := valB_lt hx
  rw [hm] at b2
  have e := valB_split H ys m
  have hd : valB H (ys.drop m) = 0 := by
    rcases Nat.eq_zero_or_pos (valB H (ys.drop m)) with h0 | h0
    · exact h0
    · have : H ^ m * 1 ≤ H ^ m * valB H (ys.drop m) := Nat.mul_le_mul_left _ h0
      omega
  rw [hd, Nat.mul_zero, Nat.add_zero] at e
  have hc : cy.toNat = 0 ∨ cy.toNat = 1 := by omega
  rcases hc with hc | hc <;> rw [hc] at g4
  · rw [Nat.mul_zero, Nat.add_zero] at g4; omega
  · rw [Nat.mul_one] at g4; omega

/-! ### shifts and bits -/
end Go.Proofs.YthpbaaanbimapaaGreatDoor
