/-
  What gcd.Gcd, gcd.Reduce, gcd.Lcm and gcd.Coprime do, told by Nat.gcd. Conditions: the slices read as lists of words, of at most 100000 words.
-/
import Derived.Test.YtmoahgiklgicgaaQuotDiv
import Derived.Test.YtmoahgiklgicgaaGcdMath
namespace Go.Proofs.Ytmoahgiklgicgaa
set_option maxRecDepth 100000
open Go.RowKit
set_option linter.unusedVariables false
set_option linter.unusedSimpArgs false

theorem mesV_val {w : World} {A : Option Addr} {n c : Nat} {xs : List Int} (h : Sl w A n c xs) : mesV (.slice A n c) w = val xs := by
  rcases Nat.eq_zero_or_pos n with h0 | h0
  · subst h0
    have e : xs = [] := List.eq_nil_of_length_eq_zero h.len.symm
    subst e
    unfold mesV
    split
    · rename_i b off n' c' heq
      injection heq with _ e2
      subst e2
      rfl
    · rfl
  · obtain ⟨b, off, rfl, _, hc⟩ := h.at_ (k := 0) h0
    show val (readAt w b off n) = val xs
    have e : readAt w b off n = xs := by
      unfold readAt
      apply List.ext_getElem
      · rw [List.length_map, List.length_range]; exact h.len
      · intro j h1 h2
        have hj : j < n := by simpa using h1
        simp only [List.getElem_map, List.getElem_range]
        rw [hc j hj]
        simp [cellInt, List.getD_eq_getElem?_getD, List.getElem?_eq_getElem h2]
    rw [e]

/-- Euclid's steps on words -/
def GW (G : Nat) (d r : Int) : Prop := U d ∧ U r ∧ Nat.gcd d.toNat r.toNat = G
theorem GW.step {G : Nat} {d r : Int} (h : GW G d r) (h0 : r ≠ 0) : GW G r (d.tmod r) ∧ (d.tmod r).toNat < r.toNat := by
  obtain ⟨hd, hr, hg⟩ := h
  rw [Int.tmod_eq_emod_of_nonneg hd.1]
  have hd' := hd
  have hr' := hr
  unfold U at hd hr
  have p : 0 < r := by omega
  have h1 := Int.emod_nonneg d h0
  have h2 := Int.emod_lt_of_pos d p
  have h3 : (d % r).toNat = d.toNat % r.toNat := Int.toNat_emod hd.1 hr.1
  refine ⟨⟨hr', ?_, ?_⟩, ?_⟩
  · show U (d % r); unfold U; omega
  · show Nat.gcd r.toNat (d % r).toNat = G
    rw [h3, gcd_step]; exact hg
  · show (d % r).toNat < r.toNat
    omega
theorem GW.end_ {G : Nat} {d : Int} (h : GW G d 0) : d.toNat = G := by
  have := h.2.2
  simpa using this

theorem cmpN_zero (a b : Nat) : (cmpN a b == 0) = decide (a = b) := by
  unfold cmpN
  split
  · rw [decide_eq_false (by omega)]; rfl
  · split
    · rw [decide_eq_false (by omega)]; rfl
    · rw [decide_eq_true (by omega)]; rfl
end Go.Proofs.Ytmoahgiklgicgaa
