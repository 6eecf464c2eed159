/-
  The walks of the laws of layer 5: each returns true for any numbers. Conditions: the slices read as lists of words.
-/
import Derived.Test.YtmoahgiklgicgaaRefGcd
namespace Go.Proofs.Ytmoahgiklgicgaa
set_option maxRecDepth 100000
open Go.RowKit
set_option linter.unusedVariables false
set_option linter.unusedSimpArgs false

theorem words_small (v : Nat) (h0 : 0 < v) (h : v < W) : words v = [(v : Int)] := by
  have := words_single (x := (v : Int)) (by unfold U; unfold W at h; omega) (by omega)
  rwa [Int.toNat_natCast] at this
theorem gcd_ex : words (Nat.gcd (val [12]) (val [18])) = [6] ∧ words (val [12] / Nat.gcd (val [12]) (val [18])) = [2] ∧ words (val [18] / Nat.gcd (val [12]) (val [18])) = [3] := by
  have e : Nat.gcd (val [12]) (val [18]) = 6 := by decide
  have e1 : val [12] = 12 := by decide
  have e2 : val [18] = 18 := by decide
  rw [e, e1, e2, words_small 6 (by omega) (by unfold W; omega), words_small (12 / 6) (by omega) (by unfold W; omega), words_small (18 / 6) (by omega) (by unfold W; omega)]
  decide
/-- two literals of one word, one after the other -/
theorem two_lits (w : World) (x y : Int) (hx : U x) (hy : U y) : Sl ((w.alloc (.cells #[.int .u64 x] 22)).alloc (.cells #[.int .u64 y] 22)) (some ⟨w.heap.size, 0, none⟩) 1 1 [x] ∧ Sl ((w.alloc (.cells #[.int .u64 x] 22)).alloc (.cells #[.int .u64 y] 22)) (some ⟨w.heap.size + 1, 0, none⟩) 1 1 [y] ∧ Below w.heap.size w ((w.alloc (.cells #[.int .u64 x] 22)).alloc (.cells #[.int .u64 y] 22)) := by
  have s2 := sl_lit (w.alloc (.cells #[.int .u64 x] 22)) y hy
  rw [show (w.alloc (.cells #[.int .u64 x] 22)).heap.size = w.heap.size + 1 from by simp] at s2
  exact ⟨(sl_lit w x hx).below (below_alloc _ _), s2, (below_alloc w _).alloc (by simp) _⟩

theorem words_len0 (r : Nat) : (((words r).length : Int) == 0) = decide (r = 0) := by
  by_cases h : r = 0
  · subst h; rw [decide_eq_true rfl]; rfl
  · rw [decide_eq_false h]
    have : (words r).length ≠ 0 := fun e => h (by rw [← val_words r, List.eq_nil_of_length_eq_zero e]; rfl)
    simp
    intro e; rw [e] at this; simp at this

/-- the word 1 alone is the number 1 -/
theorem one_word {w : World} {A : Option Addr} {n c G : Nat} (s : Sl w A n c (words G)) : (G = 1 ∧ n = 1 ∧ ∃ p o, A = some ⟨p, o, none⟩ ∧ w.cell? ⟨p, o, none⟩ = some (.int .u64 1)) ∨ (G ≠ 1 ∧ ((n : Int) == 1) = false) ∨ (G ≠ 1 ∧ n = 1 ∧ ∃ p o x, A = some ⟨p, o, none⟩ ∧ w.cell? ⟨p, o, none⟩ = some (.int .u64 x) ∧ (x == 1) = false) := by
  by_cases hn : n = 1
  · subst hn
    obtain ⟨p, o, rfl, _, hc⟩ := s.at_ (k := 0) (by omega)
    have k := hc 0 (by omega)
    rw [Nat.add_zero] at k
    have hl := s.len
    obtain ⟨x, hx⟩ : ∃ x, words G = [x] := by
      match hw : words G, hl with
      | [x], _ => exact ⟨x, rfl⟩
    have hG : G = x.toNat := by rw [← val_words G, hx, val_one]
    have hu : U x := words_U G x (by rw [hx]; simp)
    rw [hx] at k
    simp at k
    by_cases h1 : G = 1
    · left
      refine ⟨h1, rfl, p, o, rfl, ?_⟩
      have : x = 1 := by unfold U at hu; omega
      rw [← this]; exact k
    · right; right
      refine ⟨h1, rfl, p, o, x, rfl, k, ?_⟩
      simp
      intro e
      subst e
      exact h1 (by simpa using hG)
  · by_cases h1 : G = 1
    · subst h1
      have hl := s.len
      rw [words_one] at hl
      exact absurd hl hn
    · right; left
      exact ⟨h1, by simp; omega⟩

end Go.Proofs.Ytmoahgiklgicgaa
