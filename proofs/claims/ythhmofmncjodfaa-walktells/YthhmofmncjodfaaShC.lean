/-
  What the functions that compare lists of ints and of truths return: slices.Equal, Same, Ints, Bools, Has. Conditions: the slices read as lists.
-/
import Derived.Test.YthhmofmncjodfaaShB
import Derived.Test.YthhmofmncjodfaaMemZ
import Derived.Deep.Draws
namespace Go.Proofs.Ythhmofmncjodfaa
open Go.RowKit
set_option linter.unusedVariables false
set_option linter.unusedSimpArgs false

set_option maxHeartbeats 1000000 in
theorem z_equal {w : World} {A A' : Option Addr} {n n' c c' : Nat} {xs ys : List Int} (h : SlZ w A n c xs) (h' : SlZ w A' n' c' ys) :
    Calls Try.prog 41 #[.slice A n c, .slice A' n' c'] w (JustN (.bool (decide (xs = ys))) w) := by
  have hn := h.small
  have hn' := h'.small
  have HL := Lib.hid h.len
  have HL' := Lib.hid h'.len
  by_cases hl : n = n'
  · subst hl
    go_enter Try.func41, Try.ntmps41
    go_wp2_with fail
    go_loopw [13] (fun i wr => ∃ k m : Nat, k ≤ n ∧ i = .int .i64 k ∧ Hid (SameTo xs ys k) ∧ wr = w.drewN m) (fun i _ => n - mes i)
    case atStart => exact ⟨0, 0, by omega, rfl, Lib.hid (fun j hj => by omega), rfl⟩
    case round =>
      obtain ⟨k, m, hk, rfl, HZ, rfl⟩ := hrel
      by_cases hk2 : k < n
      · obtain ⟨b, off, x, hx, rfl, hlt, hi, g1⟩ := h.get hk2
        obtain ⟨b', off', y, hy, rfl, hlt', hi', g2⟩ := h'.get hk2
        have HX := Lib.hid hx
        have HY := Lib.hid hy
        clear hx hy
        by_cases hxy : x = y
        · subst hxy
          go_wp2
          go_region
          all_goals try go_wp2
          go_roundw
          case rel => exact ⟨k + 1, m + 1, by omega, by go_num, Lib.hid (HZ.out.step (by rw [HX.out, HY.out])), rfl⟩
          case measure => simp [mes, intOf]; omega
        · have hne : (x != y) = true := by simpa using hxy
          go_wp2
          go_region
          all_goals try go_wp2
          go_ret
          refine ⟨retB ?_, m + 1, rfl⟩
          symm
          rw [decide_eq_false_iff_not]
          rintro rfl
          exact hxy (by rw [← HX.out, ← HY.out])
      · obtain rfl : k = n := by omega
        go_wp2
        go_ret
        refine ⟨retB ?_, m, rfl⟩
        symm
        rw [decide_eq_true_eq]
        have hz := HZ.out
        rw [← HL.out] at hz
        exact hz.all (by rw [HL.out, HL'.out])
  · have hne : decide (n = n') = false := by simpa using hl
    have hne2 : ((n : Int) != (n' : Int)) = true := by simp; omega
    have HN := Lib.hid hl
    clear hl
    go_enter Try.func41, Try.ntmps41
    go_wp2
    go_ret
    refine ⟨retB ?_, 0, rfl⟩
    symm
    rw [decide_eq_false_iff_not]
    rintro rfl
    exact HN.out (by rw [← HL.out, ← HL'.out])

set_option maxHeartbeats 1000000 in
theorem ref_same19 {w : World} {A A' : Option Addr} {n n' c c' : Nat} {xs ys : List Int} (h : SlZ w A n c xs) (h' : SlZ w A' n' c' ys) :
    Calls Try.prog 20 #[.slice A n c, .slice A' n' c'] w (JustN (.bool (decide (xs = ys))) w) := by
  have hn := h.small
  have hn' := h'.small
  have HL := Lib.hid h.len
  have HL' := Lib.hid h'.len
  by_cases hl : n = n'
  · subst hl
    go_enter Try.func20, Try.ntmps20
    go_wp2_with fail
    go_loopw [13] (fun i wr => ∃ k m : Nat, k ≤ n ∧ i = .int .i64 k ∧ Hid (SameTo xs ys k) ∧ wr = w.drewN m) (fun i _ => n - mes i)
    case atStart => exact ⟨0, 0, by omega, rfl, Lib.hid (fun j hj => by omega), rfl⟩
    case round =>
      obtain ⟨k, m, hk, rfl, HZ, rfl⟩ := hrel
      by_cases hk2 : k < n
      · obtain ⟨b, off, x, hx, rfl, hlt, hi, g1⟩ := h.get hk2
        obtain ⟨b', off', y, hy, rfl, hlt', hi', g2⟩ := h'.get hk2
        have HX := Lib.hid hx
        have HY := Lib.hid hy
        clear hx hy
        by_cases hxy : x = y
        · subst hxy
          go_wp2
          go_region
          all_goals try go_wp2
          go_roundw
          case rel => exact ⟨k + 1, m + 1, by omega, by go_num, Lib.hid (HZ.out.step (by rw [HX.out, HY.out])), rfl⟩
          case measure => simp [mes, intOf]; omega
        · have hne : (x != y) = true := by simpa using hxy
          go_wp2
          go_region
          all_goals try go_wp2
          go_ret
          refine ⟨retB ?_, m + 1, rfl⟩
          symm
          rw [decide_eq_false_iff_not]
          rintro rfl
          exact hxy (by rw [← HX.out, ← HY.out])
      · obtain rfl : k = n := by omega
        go_wp2
        go_ret
        refine ⟨retB ?_, m, rfl⟩
        symm
        rw [decide_eq_true_eq]
        have hz := HZ.out
        rw [← HL.out] at hz
        exact hz.all (by rw [HL.out, HL'.out])
  · have hne : decide (n = n') = false := by simpa using hl
    have hne2 : ((n : Int) != (n' : Int)) = true := by simp; omega
    have HN := Lib.hid hl
    clear hl
    go_enter Try.func20, Try.ntmps20
    go_wp2
    go_ret
    refine ⟨retB ?_, 0, rfl⟩
    symm
    rw [decide_eq_false_iff_not]
    rintro rfl
    exact HN.out (by rw [← HL.out, ← HL'.out])

set_option maxHeartbeats 1000000 in
theorem pl_ints {w : World} {A A' : Option Addr} {n n' c c' : Nat} {xs ys : List Int} (h : SlZ w A n c xs) (h' : SlZ w A' n' c' ys) :
    Calls Try.prog 16 #[.slice A n c, .slice A' n' c'] w (JustN (.bool (decide (xs = ys))) w) := by
  have hn := h.small
  have hn' := h'.small
  have HL := Lib.hid h.len
  have HL' := Lib.hid h'.len
  by_cases hl : n = n'
  · subst hl
    go_enter Try.func16, Try.ntmps16
    go_wp2_with fail
    go_loopw [13] (fun i wr => ∃ k m : Nat, k ≤ n ∧ i = .int .i64 k ∧ Hid (SameTo xs ys k) ∧ wr = w.drewN m) (fun i _ => n - mes i)
    case atStart => exact ⟨0, 0, by omega, rfl, Lib.hid (fun j hj => by omega), rfl⟩
    case round =>
      obtain ⟨k, m, hk, rfl, HZ, rfl⟩ := hrel
      by_cases hk2 : k < n
      · obtain ⟨b, off, x, hx, rfl, hlt, hi, g1⟩ := h.get hk2
        obtain ⟨b', off', y, hy, rfl, hlt', hi', g2⟩ := h'.get hk2
        have HX := Lib.hid hx
        have HY := Lib.hid hy
        clear hx hy
        by_cases hxy : x = y
        · subst hxy
          go_wp2
          go_region
          all_goals try go_wp2
          go_roundw
          case rel => exact ⟨k + 1, m + 1, by omega, by go_num, Lib.hid (HZ.out.step (by rw [HX.out, HY.out])), rfl⟩
          case measure => simp [mes, intOf]; omega
        · have hne : (x != y) = true := by simpa using hxy
          go_wp2
          go_region
          all_goals try go_wp2
          go_ret
          refine ⟨retB ?_, m + 1, rfl⟩
          symm
          rw [decide_eq_false_iff_not]
          rintro rfl
          exact hxy (by rw [← HX.out, ← HY.out])
      · obtain rfl : k = n := by omega
        go_wp2
        go_ret
        refine ⟨retB ?_, m, rfl⟩
        symm
        rw [decide_eq_true_eq]
        have hz := HZ.out
        rw [← HL.out] at hz
        exact hz.all (by rw [HL.out, HL'.out])
  · have hne : decide (n = n') = false := by simpa using hl
    have hne2 : ((n : Int) != (n' : Int)) = true := by simp; omega
    have HN := Lib.hid hl
    clear hl
    go_enter Try.func16, Try.ntmps16
    go_wp2
    go_ret
    refine ⟨retB ?_, 0, rfl⟩
    symm
    rw [decide_eq_false_iff_not]
    rintro rfl
    exact HN.out (by rw [← HL.out, ← HL'.out])

set_option maxHeartbeats 1000000 in
theorem sh_same {w : World} {A A' : Option Addr} {n n' c c' : Nat} {xs ys : List Int} (h : SlZ w A n c xs) (h' : SlZ w A' n' c' ys) :
    Calls Try.prog 19 #[.slice A n c, .slice A' n' c'] w (JustN (.bool (decide (xs = ys))) w) := by
  have E := Lib.hid (z_equal h h')
  go_enter Try.func19, Try.ntmps19
  go_wp2_with fail
  refine E.out.mono ?_
  rintro _ _ ⟨rfl, k, rfl⟩
  go_wp2_with fail
  go_ret
  exact ⟨rfl, k, rfl⟩

/-- a slice of truths -/
def SlB (w : World) (A : Option Addr) (n c : Nat) (xs : List Bool) : Prop := SlC 1 (fun x => [Value.bool x]) (fun _ _ => True) w A n c xs
theorem SlB.below {w w' : World} {A : Option Addr} {n c : Nat} {xs : List Bool} (h : SlB w A n c xs) (hb : Below w.heap.size w w') : SlB w' A n c xs := SlC.below (fun h _ => h) h hb
theorem SlB.len {w : World} {A : Option Addr} {n c : Nat} {xs : List Bool} (h : SlB w A n c xs) : xs.length = n := h.1.1
theorem SlB.cap {w : World} {A : Option Addr} {n c : Nat} {xs : List Bool} (h : SlB w A n c xs) : n ≤ c ∧ c ≤ maxLen := ⟨h.1.2.1, h.1.2.2.1⟩
theorem SlB.small {w : World} {A : Option Addr} {n c : Nat} {xs : List Bool} (h : SlB w A n c xs) : n ≤ 9223372036854775807 := by have := h.cap; unfold maxLen at this; omega
theorem SlB.nil (w : World) (A : Option Addr) (c : Nat) (hc : c ≤ maxLen) : SlB w A 0 c [] := ⟨⟨rfl, Nat.zero_le _, hc, by simp⟩, fun h => absurd h (by omega)⟩
theorem SlB.get {w : World} {A : Option Addr} {n c : Nat} {xs : List Bool} (h : SlB w A n c xs) {j : Nat} (hj : j < n) :
    ∃ b off x, xs.getD j false = x ∧ A = some ⟨b, off, none⟩ ∧ b < w.heap.size ∧ w.cell? ⟨b, off + j, none⟩ = some (.bool x) := by
  obtain ⟨b, off, e, hlt, hc⟩ := h.2 (by omega)
  have hl : j < xs.length := by rw [h.len]; exact hj
  have hcj := hc j hj 0 (by omega)
  rw [List.getElem?_eq_getElem hl, Nat.mul_one, Nat.add_zero] at hcj
  exact ⟨b, off, xs[j], by rw [List.getD_eq_getElem?_getD, List.getElem?_eq_getElem hl]; rfl, e, hlt, hcj⟩
theorem BRow.slb {w : World} {g c : Nat} {bs : List Bool} (h : BRow w g bs) (hc : bs.length ≤ c) (hm : c ≤ maxLen) : SlB w (some ⟨g, 0, none⟩) bs.length c bs := by
  refine ⟨⟨rfl, hc, hm, fun _ _ => ⟨trivial, rfl⟩⟩, fun _ => ⟨g, 0, rfl, h.lt, fun j hj i hi => ?_⟩⟩
  obtain rfl : i = 0 := by omega
  rw [Nat.mul_one, Nat.add_zero, Nat.zero_add, h.cell hj, List.getElem?_eq_getElem hj, List.getD_eq_getElem?_getD, List.getElem?_eq_getElem hj]
  rfl
/-- the first k truths are the same -/
def SameToB (xs ys : List Bool) (k : Nat) : Prop := ∀ j, j < k → xs.getD j false = ys.getD j false
theorem SameToB.step {xs ys : List Bool} {k : Nat} (h : SameToB xs ys k) (h0 : xs.getD k false = ys.getD k false) : SameToB xs ys (k + 1) := fun j hj => by
  rcases Nat.lt_or_ge j k with hl | hl
  · exact h j hl
  · rw [show j = k by omega]; exact h0
theorem SameToB.all {xs ys : List Bool} (hl : xs.length = ys.length) (h : SameToB xs ys xs.length) : xs = ys := by
  apply List.ext_getElem hl
  intro i h1 h2
  have := h i h1
  simpa [List.getD_eq_getElem?_getD, h1, h2] using this

set_option maxHeartbeats 1000000 in
theorem pl_bools {w : World} {A A' : Option Addr} {n n' c c' : Nat} {xs ys : List Bool} (h : SlB w A n c xs) (h' : SlB w A' n' c' ys) :
    Calls Try.prog 27 #[.slice A n c, .slice A' n' c'] w (JustN (.bool (decide (xs = ys))) w) := by
  have hn := h.small
  have hn' := h'.small
  have HL := Lib.hid h.len
  have HL' := Lib.hid h'.len
  by_cases hl : n = n'
  · subst hl
    go_enter Try.func27, Try.ntmps27
    go_wp2_with fail
    go_loopw [13] (fun i wr => ∃ k m : Nat, k ≤ n ∧ i = .int .i64 k ∧ Hid (SameToB xs ys k) ∧ wr = w.drewN m) (fun i _ => n - mes i)
    case atStart => exact ⟨0, 0, by omega, rfl, Lib.hid (fun j hj => by omega), rfl⟩
    case round =>
      obtain ⟨k, m, hk, rfl, HZ, rfl⟩ := hrel
      by_cases hk2 : k < n
      · obtain ⟨b, off, x, hx, rfl, hlt, g1⟩ := h.get hk2
        obtain ⟨b', off', y, hy, rfl, hlt', g2⟩ := h'.get hk2
        have HX := Lib.hid hx
        have HY := Lib.hid hy
        clear hx hy
        by_cases hxy : x = y
        · subst hxy
          go_wp2
          go_region
          all_goals try go_wp2
          go_roundw
          case rel => exact ⟨k + 1, m + 1, by omega, by go_num, Lib.hid (HZ.out.step (by rw [HX.out, HY.out])), rfl⟩
          case measure => simp [mes, intOf]; omega
        · have hne : (!(x == y)) = true := by simpa using hxy
          go_wp2
          go_region
          all_goals try go_wp2
          go_ret
          refine ⟨retB ?_, m + 1, rfl⟩
          symm
          rw [decide_eq_false_iff_not]
          rintro rfl
          exact hxy (by rw [← HX.out, ← HY.out])
      · obtain rfl : k = n := by omega
        go_wp2
        go_ret
        refine ⟨retB ?_, m, rfl⟩
        symm
        rw [decide_eq_true_eq]
        have hz := HZ.out
        rw [← HL.out] at hz
        exact hz.all (by rw [HL.out, HL'.out])
  · have hne : decide (n = n') = false := by simpa using hl
    have hne2 : ((n : Int) != (n' : Int)) = true := by simp; omega
    have HN := Lib.hid hl
    clear hl
    go_enter Try.func27, Try.ntmps27
    go_wp2
    go_ret
    refine ⟨retB ?_, 0, rfl⟩
    symm
    rw [decide_eq_false_iff_not]
    rintro rfl
    exact HN.out (by rw [← HL.out, ← HL'.out])

/-- is x among the first k? -/
theorem mem_take_snoc {xs : List Int} {k : Nat} (hk : k < xs.length) (x : Int) : x ∈ xs.take (k + 1) ↔ (x ∈ xs.take k ∨ x = xs.getD k 0) := by
  rw [take_snocZ hk, List.mem_append, List.mem_singleton]

set_option maxHeartbeats 1000000 in
theorem ref_has19 {w : World} {A : Option Addr} {n c : Nat} {xs : List Int} (h : SlZ w A n c xs) (y : Int) :
    Calls Try.prog 43 #[.slice A n c, .int .i64 y] w (Just (.bool (decide (y ∈ xs))) w) := by
  have hn := h.small
  have HL := Lib.hid h.len
  go_enter Try.func43, Try.ntmps43
  go_wp2_with fail
  go_loop [8] (fun iv => ∃ k : Nat, k ≤ n ∧ iv = .int .i64 k ∧ Hid (¬ y ∈ xs.take k)) (fun iv => n - mes iv)
  case atStart => exact ⟨0, by omega, rfl, Lib.hid (by simp)⟩
  case round =>
    obtain ⟨k, hk, rfl, HP⟩ := hrel
    by_cases hk2 : k < n
    · obtain ⟨b, off, x, hx, rfl, hlt, hi, hc⟩ := h.get hk2
      have HX := Lib.hid hx
      clear hx
      by_cases h1 : x = y
      · subst h1
        have HM := Lib.hid (show x ∈ xs from List.mem_of_mem_take ((mem_take_snoc (k := k) (by rw [HL.out]; exact hk2) x).2 (.inr HX.out.symm)))
        go_wp2_with fail
        go_ret
        exact ⟨retB (decide_eq_true HM.out).symm, rfl⟩
      · have hne : (x == y) = false := by simpa using h1
        have HM := Lib.hid (show ¬ y ∈ xs.take (k + 1) from fun hh => by
          rcases (mem_take_snoc (k := k) (by rw [HL.out]; exact hk2) y).1 hh with h9 | h9
          · exact HP.out h9
          · exact h1 (by rw [h9, HX.out]))
        clear h1
        go_wp2_with fail
        go_round
        case rel => exact ⟨k + 1, by omega, by go_num, HM⟩
        case measure => simp [mes, intOf]; omega
    · obtain rfl : k = n := by omega
      have hP := HP.out
      rw [List.take_of_length_le (by rw [HL.out]; exact Nat.le_refl _)] at hP
      have HQ := Lib.hid hP
      clear hP HP
      go_wp2_with fail
      go_ret
      exact ⟨retB (decide_eq_false HQ.out).symm, rfl⟩

theorem quiet_just {P : Program} {f : FuncId} {args : Array Value} {w : World} {n : Nat} {v : Value} (h : Calls P f args (w.drewN n) (Just v (w.drewN n))) :
    Calls P f args (w.drewN n) fun e w'' => e = .returned v ∧ ∃ m, w'' = w.drewN m := h.mono fun _ _ ⟨he, hm⟩ => ⟨he, n, hm.symm⟩
theorem quiet_justN {P : Program} {f : FuncId} {args : Array Value} {w : World} {n : Nat} {v : Value} (h : Calls P f args (w.drewN n) (JustN v (w.drewN n))) :
    Calls P f args (w.drewN n) fun e w'' => e = .returned v ∧ ∃ m, w'' = w.drewN m := h.mono fun _ _ ⟨he, m, hm⟩ => ⟨he, n + m, by rw [hm, World.drewN_drewN]⟩

end Go.Proofs.Ythhmofmncjodfaa
