/-
  What the functions of package shape that make no memory, and the document's beside them, return. Conditions: the slices read as lists of ints.
-/
import Derived.Test.YthhmofmncjodfaaProg
import Derived.Test.YthhmofmncjodfaaShMath
import Derived.Test.YthhmofmncjodfaaMemK
import Derived.WalkKit
import Derived.WalkSpells
import Derived.WalkLawsBesides
import Derived.Lib.Hide
import Derived.WalkMore
import Derived.IntWalk
namespace Go.Proofs.Ythhmofmncjodfaa
open Go.RowKit
set_option linter.unusedVariables false
set_option linter.unusedSimpArgs false

theorem SlZ.len {w : World} {A : Option Addr} {n c : Nat} {xs : List Int} (h : SlZ w A n c xs) : xs.length = n := h.1.1
theorem SlZ.cap {w : World} {A : Option Addr} {n c : Nat} {xs : List Int} (h : SlZ w A n c xs) : n ≤ c ∧ c ≤ maxLen := ⟨h.1.2.1, h.1.2.2.1⟩
theorem SlZ.small {w : World} {A : Option Addr} {n c : Nat} {xs : List Int} (h : SlZ w A n c xs) : n ≤ 9223372036854775807 := by have := h.cap; unfold maxLen at this; omega
theorem SlZ.nil (w : World) (A : Option Addr) (c : Nat) (hc : c ≤ maxLen) : SlZ w A 0 c [] := ⟨⟨rfl, Nat.zero_le _, hc, by simp⟩, fun h => absurd h (by omega)⟩
theorem SlZ.drewN {w : World} {A : Option Addr} {n c : Nat} {xs : List Int} (h : SlZ w A n c xs) (k : Nat) : SlZ (w.drewN k) A n c xs := h
/-- an element, by getD -/
theorem SlZ.get {w : World} {A : Option Addr} {n c : Nat} {xs : List Int} (h : SlZ w A n c xs) {j : Nat} (hj : j < n) :
    ∃ b off x, xs.getD j 0 = x ∧ A = some ⟨b, off, none⟩ ∧ b < w.heap.size ∧ I64 x ∧ w.cell? ⟨b, off + j, none⟩ = some (.int .i64 x) := by
  obtain ⟨b, off, x, e, hlt, hx, hi, hc⟩ := h.at_ hj
  exact ⟨b, off, x, by rw [List.getD_eq_getElem?_getD, hx]; rfl, e, hlt, hi, hc⟩
theorem SlZ.take {w : World} {A : Option Addr} {n c k : Nat} {xs : List Int} (h : SlZ w A n c xs) (hk : k ≤ n) : SlZ w A k c (xs.take k) := by
  have hl := h.len
  have hc := h.cap
  refine ⟨⟨by rw [List.length_take]; omega, by omega, hc.2, fun x hx => h.1.2.2.2 x (List.mem_of_mem_take hx)⟩, fun h0 => ?_⟩
  obtain ⟨b, off, e, hlt, hcc⟩ := h.2 (by omega)
  refine ⟨b, off, e, hlt, fun j hj i hi => ?_⟩
  rw [hcc j (by omega) i hi, List.getElem?_take, if_pos hj]
theorem SlZ.drop {w : World} {b off n c k : Nat} {xs : List Int} (h : SlZ w (some ⟨b, off, none⟩) n c xs) (hk : k ≤ n) : SlZ w (some ⟨b, off + k, none⟩) (n - k) (c - k) (xs.drop k) := by
  have hl := h.len
  have hc := h.cap
  refine ⟨⟨by rw [List.length_drop]; omega, by omega, by omega, fun x hx => h.1.2.2.2 x (List.mem_of_mem_drop hx)⟩, fun h0 => ?_⟩
  obtain ⟨b', off', e, hlt, hcc⟩ := h.2 (by omega)
  injection e with e
  injection e with e1 e2
  subst e1 e2
  refine ⟨b, off + k, rfl, hlt, fun j hj i hi => ?_⟩
  rw [List.getElem?_drop, ← hcc (k + j) (by omega) i hi]
  congr 2
  omega

/-- a call that only computes -/
def Just (v : Value) (w : World) (e : Ending) (w' : World) : Prop := e = .returned v ∧ w = w'
/-- .. or reads in an open order -/
def JustN (v : Value) (w : World) (e : Ending) (w' : World) : Prop := e = .returned v ∧ ∃ k, w' = w.drewN k

set_option maxHeartbeats 400000 in
theorem sh_within (i n : Int) (w : World) : Calls Try.prog 42 #[.int .i64 i, .int .i64 n] w (Just (.bool (decide (0 ≤ i ∧ i < n))) w) := by
  by_cases h0 : 0 ≤ i
  · by_cases h1 : i < n
    · rw [decide_eq_true ⟨h0, h1⟩]
      go_enter Try.func42, Try.ntmps42
      go_wp2
      go_ret
      exact ⟨rfl, rfl⟩
    · rw [decide_eq_false (by omega)]
      go_enter Try.func42, Try.ntmps42
      go_wp2
      go_ret
      exact ⟨rfl, rfl⟩
  · rw [decide_eq_false (by omega)]
    go_enter Try.func42, Try.ntmps42
    go_wp2
    go_ret
    exact ⟨rfl, rfl⟩

/-- what product returns -/
def pv (d : List Int) : Value := if 64 < prodZ d then .tuple #[.int .i64 0, .bool false] else .tuple #[.int .i64 (prodZ d), .bool true]
set_option maxHeartbeats 1000000 in
theorem sh_product {w : World} {A : Option Addr} {n c : Nat} {d : List Int} (h : SlZ w A n c d) (hp : Pos1 d) : Calls Try.prog 39 #[.slice A n c] w (Just (pv d) w) := by
  have hn := h.small
  have hl := h.len
  have HL := Lib.hid hl
  clear hl
  go_enter Try.func39, Try.ntmps39
  go_wp2_with fail
  go_step3
  go_wp2_with fail
  go_step3
  go_wp2_with fail
  go_loop [4, 9] (fun pv iv => ∃ (k : Nat) (p : Int), k ≤ n ∧ iv = .int .i64 k ∧ pv = .int .i64 p ∧ 1 ≤ p ∧ p ≤ 64 ∧ Hid (p = prodZ (d.take k))) (fun _ iv => n - mes iv)
  case atStart => exact ⟨0, 1, by omega, rfl, rfl, by omega, by omega, Lib.hid (by simp [prodZ])⟩
  case round =>
    obtain ⟨k, p, hk, rfl, rfl, hp1, hp2, HP⟩ := hrel
    by_cases hk2 : k < n
    · obtain ⟨b, off, x, hx, rfl, hlt, hi, hc⟩ := h.get hk2
      obtain ⟨hi1, hi2⟩ := hi
      have hx1 : 1 ≤ x := by rw [← hx]; exact hp.at (by rw [HL.out]; exact hk2)
      have hs : prodZ (d.take (k + 1)) = p * x := by rw [prodZ_take (by rw [HL.out]; exact hk2), HP.out, hx]
      have hle := prodZ_take_le hp (k + 1)
      have HS := Lib.hid hs
      have HX := Lib.hid hx
      by_cases hone : x = 1
      · subst hone
        clear hs hx hle
        go_wp2_with fail
        go_round
        case rel => exact ⟨k + 1, p, by omega, by go_num, rfl, hp1, hp2, Lib.hid (by rw [HS.out, Int.mul_one])⟩
        case measure => simp [mes, intOf]; omega
      · have hne : (x == 1) = false := by simpa using hone
        have hdm : (64 : Int).tdiv p = 64 / p := Int.tdiv_eq_ediv_of_nonneg (by omega)
        have hq0 : 0 ≤ 64 / p := Int.ediv_nonneg (by omega) (by omega)
        have hq1 : 64 / p ≤ 64 := Int.ediv_le_self _ (by omega)
        by_cases hbig : 64 / p < x
        · have hgt := quo_lt hp1 hbig
          have HG := Lib.hid hgt
          have HLE := Lib.hid hle
          clear hs hx hle hgt
          go_wp2_with fail
          go_ret2
          refine ⟨?_, rfl⟩
          unfold pv
          rw [if_pos (by have := HG.out; have := HLE.out; have := HS.out; omega)]
          rfl
        · have hsm := quo_le hp1 hbig
          have hge := (mul_ge_one hp1 hx1).1
          clear hs hx hle
          have hb1 : p * x ≤ 9223372036854775807 := by omega
          have hb2 : -9223372036854775808 ≤ p * x := by omega
          go_wp2_with fail
          go_round
          case rel => exact ⟨k + 1, p * x, by omega, by go_num, rfl, hge, hsm, Lib.hid HS.out.symm⟩
          case measure => simp [mes, intOf]; omega
    · obtain rfl : k = n := by omega
      have ht : d.take k = d := List.take_of_length_le (by rw [HL.out]; exact Nat.le_refl _)
      have hP := HP.out
      rw [ht] at hP
      have HP2 := Lib.hid hP
      clear ht hP HP
      go_wp2_with fail
      go_ret2
      refine ⟨?_, rfl⟩
      have := HP2.out
      unfold pv
      rw [if_neg (by omega), ← this]
      rfl

end Go.Proofs.Ythhmofmncjodfaa
