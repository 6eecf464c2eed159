/-
  Blocks that stay: a call that writes into one block alone; blocks that are known whole. No Go function in sight. Conditions: as each lemma says.
-/
import Derived.Test.YthhmofmncjodfaaMem
namespace Go.Proofs.Ythhmofmncjodfaa
open Go.RowKit
set_option linter.unusedVariables false
set_option linter.unusedSimpArgs false

theorem below_alloc (w : World) (o : Obj) : Below w.heap.size w (w.alloc o) := (Below.refl _ _).alloc (Nat.le_refl _) _
/-- of the blocks that were there, block g alone may have turned -/
structure Keep (g : Nat) (w w' : World) : Prop where
  os : w'.os = w.os
  tape : w'.tape = w.tape
  output : w'.output = w.output
  size : w.heap.size ≤ w'.heap.size
  block : ∀ k, k < w.heap.size → k ≠ g → w'.heap[k]? = w.heap[k]?
theorem Keep.refl (g : Nat) (w : World) : Keep g w w := ⟨rfl, rfl, rfl, Nat.le_refl _, fun _ _ _ => rfl⟩
theorem Keep.trans {g : Nat} {a b c : World} (h : Keep g a b) (k : Keep g b c) : Keep g a c :=
  ⟨k.os.trans h.os, k.tape.trans h.tape, k.output.trans h.output, Nat.le_trans h.size k.size, fun i hi hg => (k.block i (Nat.lt_of_lt_of_le hi h.size) hg).trans (h.block i hi hg)⟩
theorem Keep.setCell {g : Nat} {a w : World} (h : Keep g a w) (i : Nat) (u : Value) : Keep g a (w.setCell ⟨g, i, none⟩ u) :=
  h.trans ⟨rfl, rfl, rfl, by simp [World.setCell], fun k _ hg => Below.heap_setCell _ _ _ _ hg⟩
theorem Keep.drew {g : Nat} {a w : World} (h : Keep g a w) : Keep g a w.drew := ⟨h.os, h.tape, h.output, h.size, h.block⟩
theorem Keep.drewN {g : Nat} {a w : World} (h : Keep g a w) (n : Nat) : Keep g a (w.drewN n) := ⟨h.os, h.tape, h.output, h.size, h.block⟩
theorem Keep.alloc {g : Nat} {a w : World} (h : Keep g a w) (o : Obj) : Keep g a (w.alloc o) :=
  h.trans ⟨rfl, rfl, rfl, by simp, fun k hk _ => Below.heap_alloc _ _ _ hk⟩
theorem Keep.of_below (g : Nat) {w w' : World} (h : Below w.heap.size w w') : Keep g w w' := ⟨h.os, h.tape, h.output, h.size, fun k hk _ => h.block k hk⟩
theorem Keep.below {g B : Nat} {w w' : World} (h : Keep g w w') (hg : B ≤ g) (hB : B ≤ w.heap.size) : Below B w w' :=
  ⟨h.os, h.tape, h.output, h.size, fun k hk => h.block k (by omega) (by omega)⟩
theorem Below.keep {B g : Nat} {a w w' : World} (h : Below B a w) (k : Keep g w w') (hg : B ≤ g) (hB : B ≤ a.heap.size) : Below B a w' :=
  h.trans (k.below hg (Nat.le_trans hB h.size))
theorem Row.keep {t : TypeId} {w w' : World} {g g' : Nat} {zs : List Int} (h : Row t w g zs) (k : Keep g' w w') (hg : g ≠ g') : Row t w' g zs := (k.block g h.lt hg).trans h

/-- block g of w is just the cells vs, none frozen -/
def Box (t : TypeId) (w : World) (g : Nat) (vs : Array Value) : Prop := w.heap[g]? = some (.cells vs t (0, 0))
section
variable {t : TypeId} {w w' : World} {g : Nat} {vs : Array Value}
theorem Box.new (w : World) (t : TypeId) (vs : Array Value) : Box t (w.alloc (.cells vs t)) w.heap.size vs := heap_alloc_new w _
theorem Box.lt (h : Box t w g vs) : g < w.heap.size := by
  rcases Nat.lt_or_ge g w.heap.size with hlt | hge
  · exact hlt
  · unfold Box at h; rw [Array.getElem?_eq_none hge] at h; cases h
theorem Box.below {B : Nat} (h : Box t w g vs) (hb : Below B w w') (hg : g < B) : Box t w' g vs := (hb.block g hg).trans h
theorem Box.below' (h : Box t w g vs) (hb : Below w.heap.size w w') : Box t w' g vs := h.below hb h.lt
theorem Box.alloc (h : Box t w g vs) (o : Obj) : Box t (w.alloc o) g vs := h.below (below_alloc w o) h.lt
theorem Box.cell (h : Box t w g vs) (i : Nat) : w.cell? ⟨g, i, none⟩ = vs[i]? := by
  rw [cell_of_row w g i _ t (0, 0) h]
theorem Box.free (h : Box t w g vs) (i : Nat) : w.frozen? ⟨g, i, none⟩ = false := by
  unfold Box at h
  simp [World.frozen?, h]
/-- the three cells of a box of a number -/
theorem Box.three {v0 v1 v2 : Value} (h : Box t w g #[v0, v1, v2]) :
    (w.cell? ⟨g, 0, none⟩ = some v0 ∧ w.cell? ⟨g, 1, none⟩ = some v1 ∧ w.cell? ⟨g, 2, none⟩ = some v2) ∧
    (w.frozen? ⟨g, 0, none⟩ = false ∧ w.frozen? ⟨g, 1, none⟩ = false ∧ w.frozen? ⟨g, 2, none⟩ = false) :=
  ⟨⟨h.cell 0, h.cell 1, h.cell 2⟩, h.free 0, h.free 1, h.free 2⟩
end
theorem bb {a b c : World} (h : Below a.heap.size a b) (k : Below b.heap.size b c) : Below a.heap.size a c := h.trans (k.mono h.size)
theorem box0 (t : TypeId) (w : World) (vs : Array Value) : ∃ V, w.alloc (.cells vs t) = V ∧ Box t V w.heap.size vs ∧ Below w.heap.size w V := ⟨_, rfl, Box.new w t vs, below_alloc _ _⟩

/-- a call that returns an integer, a bool, and turns nothing that was there -/
def RetI (z : Int) (w : World) (e : Ending) (w' : World) : Prop := e = .returned (.int .i64 z) ∧ Below w.heap.size w w'
def RetBl (b : Bool) (w : World) (e : Ending) (w' : World) : Prop := e = .returned (.bool b) ∧ Below w.heap.size w w'
end Go.Proofs.Ythhmofmncjodfaa
