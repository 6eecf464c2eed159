/-
  What gradineref07's Make, Neg, Sign, Zero, Add, Sub, Mul, Div and Cmp do, told by Lean's own Rat. Conditions: the numbers of at most N words, N at most 400.
-/
import Derived.Test.YtnheefhbchkbdaaDoorRatAdd
namespace Go.Proofs.YtnheefhbchkbdaaDoor
set_option maxRecDepth 100000
open Go.RowKit
set_option linter.unusedVariables false
set_option linter.unusedSimpArgs false

theorem words_nil_iff' {R n : Nat} (h : n = (words R).length) : n = 0 ↔ R = 0 := by
  have := words_len0 R
  rw [← h] at this
  rw [Bool.eq_iff_iff] at this
  simp at this
  exact this

set_option maxHeartbeats 1000000 in
theorem ref_zero {w : World} {s : Bool} {A A' : Option Addr} {n n' c c' : Nat} {X : Rat} (h : Q w s A n c A' n' c' X) :
    Calls Tryd.prog 6 #[.agg #[.bool s, .slice A n c, .slice A' n' c']] w (RetBl (decide (X = 0)) w) := by
  have hl := h.2.1.len
  have hlz := words_nil_iff' hl
  have hz := rat_zero_iff X
  by_cases h0 : X = 0
  · have hn : n = 0 := hlz.2 (hz.1 h0)
    subst hn
    rw [decide_eq_true h0]
    clear h0 hl hlz h hz
    go_enter Tryd.func6, Tryd.ntmps6
    go_wp2_with fail
    go_ret
    exact ⟨rfl, below_alloc _ _⟩
  · have hn : ¬ n = 0 := fun e => h0 (hz.2 (hlz.1 e))
    have hn2 : ((n : Int) == 0) = false := by simp; omega
    have hn3 : decide (n = 0) = false := decide_eq_false hn
    rw [decide_eq_false h0]
    clear h0 hl hlz h hz
    go_enter Tryd.func6, Tryd.ntmps6
    go_wp2_with fail
    go_ret
    exact ⟨rfl, below_alloc _ _⟩

end Go.Proofs.YtnheefhbchkbdaaDoor
