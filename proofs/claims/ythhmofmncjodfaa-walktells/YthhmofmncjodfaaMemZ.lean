/-
  Rows of truths, and what stays below a bound but for one block. No Go function in sight. Conditions: as each lemma says.
-/
import Derived.Test.YthhmofmncjodfaaProg
import Derived.Test.YthhmofmncjodfaaMemK
import Derived.Test.YthhmofmncjodfaaLnMem
import Derived.KernelRfl
import Derived.RangeFuncNested
import Derived.Lib.Hide
namespace Go.Proofs.Ythhmofmncjodfaa
open Go.RowKit
set_option linter.unusedVariables false
set_option linter.unusedSimpArgs false

/-- below B all blocks but g stay -/
def KX (B g : Nat) (W W' : World) : Prop := W.heap.size ≤ W'.heap.size ∧ ∀ b, b < B → b ≠ g → W'.heap[b]? = W.heap[b]?
theorem KX.refl (B g : Nat) (W : World) : KX B g W W := ⟨Nat.le_refl _, fun _ _ _ => rfl⟩
theorem KX.trans {B g : Nat} {X Y Z : World} (h : KX B g X Y) (k : KX B g Y Z) : KX B g X Z := ⟨Nat.le_trans h.1 k.1, fun b h1 h2 => (k.2 b h1 h2).trans (h.2 b h1 h2)⟩
theorem KX.cell {B g : Nat} {W W' : World} (h : KX B g W W') {b i : Nat} (h1 : b < B) (h2 : b ≠ g) : W'.cell? ⟨b, i, none⟩ = W.cell? ⟨b, i, none⟩ := World.cell?_of_block (a := ⟨b, i, none⟩) (h.2 b h1 h2)
theorem rev_take {n k : Nat} (h : k < n) : (List.range n).reverse.take (k + 1) = (List.range n).reverse.take k ++ [n - 1 - k] := by
  have hl : k < (List.range n).reverse.length := by simpa using h
  rw [List.take_succ_eq_append_getElem hl, List.getElem_reverse]
  simp

/-- a row of truths -/
def BRow (w : World) (g : Nat) (bs : List Bool) : Prop := Box 4 w g (bs.map Value.bool).toArray
theorem BRow.cell {w : World} {g : Nat} {bs : List Bool} (h : BRow w g bs) {i : Nat} (hi : i < bs.length) : w.cell? ⟨g, i, none⟩ = some (.bool (bs.getD i false)) := by
  rw [Box.cell h]
  simp [List.getD, hi]
theorem BRow.free {w : World} {g : Nat} {bs : List Bool} (h : BRow w g bs) (i : Nat) : w.frozen? ⟨g, i, none⟩ = false := Box.free h i
theorem BRow.set {w : World} {g : Nat} {bs : List Bool} (h : BRow w g bs) (i : Nat) (b : Bool) : BRow (w.setCell ⟨g, i, none⟩ (.bool b)) g (bs.set i b) := by
  unfold BRow Box at *
  unfold World.setCell
  simp [Array.getElem?_modify, h, List.map_set]
theorem BRow.lt {w : World} {g : Nat} {bs : List Bool} (h : BRow w g bs) : g < w.heap.size := Box.lt h
theorem BRow.kx {B g' : Nat} {w w' : World} {g : Nat} {bs : List Bool} (h : BRow w g bs) (hb : Below w.heap.size w w') : BRow w' g bs := Box.below' h hb
theorem set_at {bs : List Bool} {i : Nat} (hi : i < bs.length) (b : Bool) (k : Nat) : (bs.set i b).getD k false = if k = i then b else bs.getD k false := by
  rw [List.getD_eq_getElem?_getD, List.getElem?_set, List.getD_eq_getElem?_getD]
  by_cases h : i = k
  · subst h; simp [hi]
  · rw [if_neg h, if_neg (fun e => h e.symm)]
theorem make_bools (w : World) (n : Nat) (hn : n ≤ 1000000) : ∃ w1, (Instr.makeSlice 29 (.int .i64 (n : Int)) (.int .i64 (n : Int))).run Try.prog w = .ok (.slice (some ⟨w.heap.size, 0, none⟩) n n) w1 ∧ BRow w1 w.heap.size (List.replicate n false) ∧ Below w.heap.size w w1 ∧ w1.heap.size = w.heap.size + 1 := by
  refine ⟨_, run_make_row' (P := Try.prog) 29 4 (.bool false) 1 Try.underlying29 (by kernel_rfl) rfl .i64 .i64 n (by omega) (by omega) w, ?_, below_alloc _ _, by simp⟩
  have e : madeCells #[.bool false] n = ((List.replicate n false).map Value.bool).toArray := by
    apply Array.toList_inj.1
    rw [toList_madeCells_one]
    simp
  unfold BRow
  rw [e]
  exact Box.new w _ _
theorem KX.of_below {g : Nat} {W W' : World} (h : Below W.heap.size W W') : KX W.heap.size g W W' := ⟨h.size, fun b hb _ => h.block b hb⟩
theorem KX.mono {B B' g : Nat} {W W' : World} (h : KX B g W W') (hB : B' ≤ B) : KX B' g W W' := ⟨h.1, fun b h1 h2 => h.2 b (by omega) h2⟩
theorem KX.keepsFrom {t : TypeId} {B g : Nat} {W W' : World} {vs : Array Value} (hb : Box t W g vs) (h : KX W.heap.size g W W') : KeepsFrom B W W' :=
  ⟨h.1, fun k o hk h1 h2 => by
    by_cases e : k = g
    · subst e
      unfold Box at hb
      rw [hb] at h1
      cases h1
      cases h2
    · exact (h.2 k (Array.getElem?_eq_some_iff.1 h1).1 e).trans h1⟩
theorem KX.setCell {B g i : Nat} {W W' : World} (h : KX B g W W') (v : Value) : KX B g W (W'.setCell ⟨g, i, none⟩ v) := by
  have hk := (Keep.refl g W').setCell i v
  refine ⟨Nat.le_trans h.1 hk.size, fun b h1 h2 => ?_⟩
  by_cases hlt : b < W'.heap.size
  · exact (hk.block b hlt h2).trans (h.2 b h1 h2)
  · have e1 : W.heap[b]? = none := Array.getElem?_eq_none (by have := h.1; omega)
    rw [e1, Array.getElem?_eq_none]
    have : (W'.setCell ⟨g, i, none⟩ v).heap.size = W'.heap.size := by unfold World.setCell; simp
    omega

/-- a block in which a cell lies is a block of cells -/
theorem cells_of_cell {w : World} {b i : Nat} {v : Value} (h : w.cell? ⟨b, i, none⟩ = some v) : ∃ o, w.heap[b]? = some o ∧ o.isCells = true := by
  unfold World.cell? at h
  split at h
  · rename_i c t f hh
    exact ⟨_, hh, rfl⟩
  · cases h
/-- all blocks of cells stay but those of X -/
def KC (X : Nat → Prop) (W W' : World) : Prop := W.heap.size ≤ W'.heap.size ∧ ∀ b o, ¬ X b → W.heap[b]? = some o → o.isCells = true → W'.heap[b]? = some o
section
variable {X : Nat → Prop} {W W' : World}
theorem KC.refl (X : Nat → Prop) (W : World) : KC X W W := ⟨Nat.le_refl _, fun _ _ _ h _ => h⟩
theorem KC.trans {A B C : World} (h : KC X A B) (k : KC X B C) : KC X A C := ⟨Nat.le_trans h.1 k.1, fun b o hx hb ho => k.2 b o hx (h.2 b o hx hb ho) ho⟩
theorem KC.of_below (h : Below W.heap.size W W') : KC X W W' := ⟨h.size, fun b o _ hb _ => (h.block b (Array.getElem?_eq_some_iff.1 hb).1).trans hb⟩
theorem KC.setCell {A : World} {g : Nat} (h : KC X A W) (hg : X g) (i : Nat) (v : Value) : KC X A (W.setCell ⟨g, i, none⟩ v) := by
  have hk := (Keep.refl g W).setCell i v
  refine ⟨Nat.le_trans h.1 hk.size, fun b o hx hb ho => ?_⟩
  have h1 := h.2 b o hx hb ho
  exact (hk.block b (Array.getElem?_eq_some_iff.1 h1).1 (fun e => hx (e ▸ hg))).trans h1
theorem KC.putObj {l : Nat} {o : Obj} (h : W.heap[l]? = some o) (ho : o.isCells = false) (o' : Obj) : KC X W (W.putObj l o') := by
  refine ⟨by simp [World.putObj], fun b o2 hx hb h2 => ?_⟩
  have hne : b ≠ l := by
    rintro rfl
    rw [h] at hb
    cases hb
    rw [ho] at h2
    cases h2
  exact (World.putObj_heap_other hne).trans hb
theorem KC.mono {Y : Nat → Prop} (h : KC X W W') (hs : ∀ b, X b → Y b) : KC Y W W' := ⟨h.1, fun b o hx hb ho => h.2 b o (fun h9 => hx (hs b h9)) hb ho⟩
theorem KC.cell (k : KC X W W') {b i : Nat} {v : Value} (hx : ¬ X b) (h : W.cell? ⟨b, i, none⟩ = some v) : W'.cell? ⟨b, i, none⟩ = some v := by
  obtain ⟨o, ho, hc⟩ := cells_of_cell h
  exact (World.cell?_of_block (a := ⟨b, i, none⟩) ((k.2 b o hx ho hc).trans ho.symm)).trans h
theorem Box.kc {t : TypeId} {g : Nat} {vs : Array Value} (h : Box t W g vs) (k : KC X W W') (hx : ¬ X g) : Box t W' g vs := k.2 g _ hx h rfl
theorem BRow.kc {g : Nat} {bs : List Bool} (h : BRow W g bs) (k : KC X W W') (hx : ¬ X g) : BRow W' g bs := Box.kc h k hx
theorem SlC.kc {k : Nat} {V : Type} {cells : V → List Value} {ok : World → V → Prop} (hok : ∀ x, ok W x → ok W' x) {A : Option Addr} {n c : Nat} {xs : List V} (h : SlC k cells ok W A n c xs) (hk : KC X W W')
    (hx : 0 < n → ∀ b off, A = some ⟨b, off, none⟩ → ¬ X b) : SlC k cells ok W' A n c xs := by
  refine ⟨⟨h.1.1, h.1.2.1, h.1.2.2.1, fun x hx => ⟨hok x (h.1.2.2.2 x hx).1, (h.1.2.2.2 x hx).2⟩⟩, fun h0 => ?_⟩
  obtain ⟨b, off, e, hlt, hc⟩ := h.2 h0
  refine ⟨b, off, e, Nat.lt_of_lt_of_le hlt hk.1, fun j hj i hi => ?_⟩
  have h1 := hc j hj i hi
  have hl : j < xs.length := by rw [h.1.1]; exact hj
  have hl2 : i < (cells xs[j]).length := by rw [(h.1.2.2.2 _ (List.getElem_mem hl)).2]; exact hi
  rw [List.getElem?_eq_getElem hl] at h1 ⊢
  have h2 : W.cell? ⟨b, off + j * k + i, none⟩ = some (cells xs[j])[i] := h1.trans (List.getElem?_eq_getElem hl2)
  exact (hk.cell (hx h0 b off e) h2).trans (List.getElem?_eq_getElem hl2).symm
theorem SlZ.kc {A : Option Addr} {n c : Nat} {xs : List Int} (h : SlZ W A n c xs) (hk : KC X W W') (hx : 0 < n → ∀ b off, A = some ⟨b, off, none⟩ → ¬ X b) : SlZ W' A n c xs := SlC.kc (k := 1) (cells := fun x => [Value.int .i64 x]) (ok := fun _ x => I64 x) (fun _ h => h) h hk hx
end
end Go.Proofs.Ythhmofmncjodfaa
