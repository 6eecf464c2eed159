/-
  What the document's own ten and Show (package gradineref06) do. Conditions: the slice reads as a list of words, of at most 1000 words.
-/
import Derived.Test.YtnheefhbchkbdaaDoorDigitRead2
namespace Go.Proofs.YtnheefhbchkbdaaDoor
set_option maxRecDepth 100000
open Go.RowKit
set_option linter.unusedVariables false
set_option linter.unusedSimpArgs false

theorem Cl.sl {w : World} {g c : Nat} {zs : List Int} (h : Cl .u64 w g zs) (hg : g < w.heap.size) (hu : ∀ x ∈ zs, U x) (hc : zs.length ≤ c) : Sl w (some ⟨g, 0, none⟩) zs.length c zs :=
  ⟨⟨rfl, hc, hu⟩, fun _ => ⟨g, 0, rfl, hg, fun j hj => by rw [Nat.zero_add]; exact (h j hj).1⟩⟩

/-- a call that returns a number by ten, and what is left -/
def RetTen (v : Nat) (w : World) (e : Ending) (w' : World) : Prop := ∃ A n c, e = .returned (.tuple #[.slice A n c, .int .i64 ((v % 10 : Nat) : Int)]) ∧ Sl w' A n c (words (v / 10)) ∧ Below w.heap.size w w'
theorem RetTen.of {v n c q : Nat} {A : Option Addr} {r : Int} {w w' : World} (hr : r = ((v % 10 : Nat) : Int)) (hq : q = v / 10) (hs : Sl w' A n c (words q)) (hb : Below w.heap.size w w') : RetTen v w (.returned (.tuple #[.slice A n c, .int .i64 r])) w' := by
  subst hr hq; exact ⟨A, n, c, rfl, hs, hb⟩
theorem Own.cap {t : TypeId} {base : Nat} {w : World} {A : Option Addr} {n c : Nat} {zs : List Int} (h : Own t base w (.slice A n c) zs) : n ≤ c := by
  obtain ⟨h1, h2⟩ := h
  rcases h2 with ⟨e, h0⟩ | ⟨g, cap, cur, e, hg, hh, hnc, r⟩
  · injection e with _ e2 e3; omega
  · injection e with _ e2 e3; omega

end Go.Proofs.YtnheefhbchkbdaaDoor
