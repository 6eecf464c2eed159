/-
  What quot.divLong and quot.Div return: quotient and remainder. Conditions: the slices read as lists of words, of at most 10^6 words.
-/
import Derived.Test.YtmoahgiklgicgaaQuotWord
import Derived.WalkMore
namespace Go.Proofs.Ytmoahgiklgicgaa
set_option maxRecDepth 100000
open Go.RowKit
set_option linter.unusedVariables false
set_option linter.unusedSimpArgs false

/-- the number in a cell -/
def cellInt : Option Value → Int
  | some (.int _ z) => z
  | _ => 0
/-- the n words from place off of block b on -/
def readAt (w : World) (b off n : Nat) : List Int := (List.range n).map fun j => cellInt (w.cell? ⟨b, off + j, none⟩)
/-- the number that a slot's slice says: for a loop's measure -/
def mesV (v : Value) (w : World) : Nat :=
  match v with
  | .slice (some ⟨b, off, none⟩) n _ => val (readAt w b off n)
  | _ => 0
theorem mesV_eq {w : World} {A : Option Addr} {n c X : Nat} (h : Sl w A n c (words X)) : mesV (.slice A n c) w = X := by
  rcases Nat.eq_zero_or_pos n with h0 | h0
  · subst h0
    have e : words X = [] := List.eq_nil_of_length_eq_zero h.len.symm
    have hX : X = 0 := by rw [← val_words X, e]; rfl
    rw [hX]
    unfold mesV
    split
    · rename_i b off n' c' heq
      injection heq with _ e2
      subst e2
      rfl
    · rfl
  · obtain ⟨b, off, rfl, _, hc⟩ := h.at_ (k := 0) h0
    show val (readAt w b off n) = X
    have e : readAt w b off n = words X := by
      unfold readAt
      apply List.ext_getElem
      · rw [List.length_map, List.length_range]; exact h.len
      · intro i h1 h2
        rw [List.length_map, List.length_range] at h1
        rw [List.getElem_map, List.getElem_range, hc i h1]
        simp [cellInt, List.getD_eq_getElem?_getD, List.getElem?_eq_getElem h2]
    rw [e, val_words]
/-- a call that returns two numbers -/
def RetQR (q r : Nat) (w : World) (e : Ending) (w' : World) : Prop := ∃ A n c A' n' c', e = .returned (.tuple #[.slice A n c, .slice A' n' c']) ∧ Sl w' A n c (words q) ∧ Sl w' A' n' c' (words r) ∧ Below w.heap.size w w'

/-- a call that returns two numbers and a bool -/
def RetDiv (q r : Nat) (ok : Bool) (w : World) (e : Ending) (w' : World) : Prop := ∃ A n c A' n' c', e = .returned (.tuple #[.slice A n c, .slice A' n' c', .bool ok]) ∧ Sl w' A n c (words q) ∧ Sl w' A' n' c' (words r) ∧ Below w.heap.size w w'
theorem val_short {ys : List Int} (hd : Dg W ys) (h : sz ys ≤ 1) : val ys = (ys.getD 0 0).toNat := by
  have e := valB_take_sz W ys h
  unfold val
  rw [← e, show (1 : Nat) = 0 + 1 from rfl, valB_take_succ]
  simp [valB]
theorem val_long {ys : List Int} (hd : Dg W ys) (h : 1 < sz ys) : 2 ≤ (words (val ys)).length ∧ 0 < val ys := by
  rw [words_val hd, length_trim]
  refine ⟨h, ?_⟩
  rcases Nat.eq_zero_or_pos (val ys) with e | e
  · have := (valB_zero_iff W_pos hd).1 e; omega
  · exact e

end Go.Proofs.Ytmoahgiklgicgaa
