/-
  Words for memory: a slice value that reads as a list of 64-bit words; a block of words that is known whole. No Go function in sight.
-/
import Derived.Test.YthhmofmncjodfaaU64
import Derived.Below
import Derived.Laws.OwnMore
import Derived.Laws.Rows
import Derived.Deep.OwnRows
import Derived.Deep.Draws
namespace Go.Proofs.Ythhmofmncjodfaa
open Go.RowKit
set_option linter.unusedVariables false
set_option linter.unusedSimpArgs false

/-- the slice value '.slice A n c' reads, in w, as the list xs of words -/
def Sl (w : World) (A : Option Addr) (n c : Nat) (xs : List Int) : Prop :=
  (xs.length = n ∧ n ≤ c ∧ ∀ x ∈ xs, U x) ∧ (0 < n → ∃ b off, A = some ⟨b, off, none⟩ ∧ b < w.heap.size ∧ ∀ j, j < n → w.cell? ⟨b, off + j, none⟩ = some (.int .u64 (xs.getD j 0)))

theorem Sl.len {w : World} {A : Option Addr} {n c : Nat} {xs : List Int} (h : Sl w A n c xs) : n = xs.length := h.1.1.symm
theorem Sl.cap {w : World} {A : Option Addr} {n c : Nat} {xs : List Int} (h : Sl w A n c xs) : n ≤ c := h.1.2.1
theorem Sl.us {w : World} {A : Option Addr} {n c : Nat} {xs : List Int} (h : Sl w A n c xs) : ∀ x ∈ xs, U x := h.1.2.2
theorem Sl.u {w : World} {A : Option Addr} {n c : Nat} {xs : List Int} (h : Sl w A n c xs) (j : Nat) : U (xs.getD j 0) := by
  by_cases hj : j < xs.length
  · rw [List.getD_eq_getElem?_getD, List.getElem?_eq_getElem hj]
    exact h.us _ (List.getElem_mem hj)
  · rw [List.getD_eq_getElem?_getD, List.getElem?_eq_none (by omega)]
    exact U_0
theorem Sl.at_ {w : World} {A : Option Addr} {n c k : Nat} {xs : List Int} (h : Sl w A n c xs) (hk : k < n) :
    ∃ b off, A = some ⟨b, off, none⟩ ∧ b < w.heap.size ∧ ∀ j, j < n → w.cell? ⟨b, off + j, none⟩ = some (.int .u64 (xs.getD j 0)) := h.2 (by omega)
theorem Sl.below {w w' : World} {A : Option Addr} {n c : Nat} {xs : List Int} (h : Sl w A n c xs) (hb : Below w.heap.size w w') : Sl w' A n c xs := by
  refine ⟨h.1, fun h0 => ?_⟩
  obtain ⟨b, off, e, hlt, hc⟩ := h.2 h0
  exact ⟨b, off, e, Nat.lt_of_lt_of_le hlt hb.size, fun j hj => (hb.cell (p := ⟨b, off + j, none⟩) hlt).trans (hc j hj)⟩
theorem Sl.drewN {w : World} {A : Option Addr} {n c : Nat} {xs : List Int} (h : Sl w A n c xs) (k : Nat) : Sl (w.drewN k) A n c xs := h
theorem Sl.nil (w : World) (A : Option Addr) (c : Nat) : Sl w A 0 c [] := ⟨⟨rfl, Nat.zero_le _, by simp⟩, fun h => absurd h (by omega)⟩
theorem Sl.take {w : World} {A : Option Addr} {n c k : Nat} {xs : List Int} (h : Sl w A n c xs) (hk : k ≤ n) : Sl w A k c (xs.take k) := by
  refine ⟨⟨by rw [List.length_take, h.1.1]; omega, by have := h.cap; omega, fun x hx => h.us x (List.mem_of_mem_take hx)⟩, fun h0 => ?_⟩
  obtain ⟨b, off, e, hlt, hc⟩ := h.2 (by omega)
  refine ⟨b, off, e, hlt, fun j hj => ?_⟩
  rw [hc j (by omega)]
  simp [List.getD_eq_getElem?_getD, List.getElem?_take, hj]

/-- block g of w is just the words zs, none frozen; t is the number of the type uint64 -/
def Row (t : TypeId) (w : World) (g : Nat) (zs : List Int) : Prop := w.heap[g]? = some (.cells (zs.map (Value.int .u64)).toArray t (0, 0))
section
variable {t : TypeId} {w w' : World} {g : Nat} {zs : List Int}
theorem Row.lt (h : Row t w g zs) : g < w.heap.size := by
  rcases Nat.lt_or_ge g w.heap.size with hlt | hge
  · exact hlt
  · unfold Row at h; rw [Array.getElem?_eq_none hge] at h; cases h
theorem Row.cell (h : Row t w g zs) {i : Nat} (hi : i < zs.length) : w.cell? ⟨g, i, none⟩ = some (.int .u64 (zs.getD i 0)) := by
  rw [cell_of_row w g i _ t (0, 0) h]
  simp [List.getD_eq_getElem?_getD, List.getElem?_eq_getElem hi]
theorem Row.free (h : Row t w g zs) (i : Nat) : w.frozen? ⟨g, i, none⟩ = false := by
  unfold Row at h
  simp [World.frozen?, h]
theorem Row.set (h : Row t w g zs) (i : Nat) (u : Int) : Row t (w.setCell ⟨g, i, none⟩ (.int .u64 u)) g (zs.set i u) := by
  unfold Row at h ⊢
  simp [World.setCell, Array.getElem?_modify, h, List.map_set]
theorem Row.drewN (h : Row t w g zs) (k : Nat) : Row t (w.drewN k) g zs := h
theorem Row.drew (h : Row t w g zs) : Row t w.drew g zs := h
theorem Row.below {B : Nat} (h : Row t w g zs) (hb : Below B w w') (hg : g < B) : Row t w' g zs := (hb.block g hg).trans h
theorem Row.new (w : World) (t : TypeId) (n : Nat) : Row t (w.alloc (.cells (madeCells #[.int .u64 0] n) t)) w.heap.size (List.replicate n 0) := by
  have e : madeCells #[.int .u64 0] n = ((List.replicate n (0 : Int)).map (Value.int .u64)).toArray := by
    apply Array.toList_inj.1
    rw [toList_madeCells_one]
    simp
  unfold Row
  rw [e]
  exact heap_alloc_new w _
theorem Row.lit (w : World) (t : TypeId) (zs : List Int) : Row t (w.alloc (.cells (zs.map (Value.int .u64)).toArray t)) w.heap.size zs := heap_alloc_new w _
theorem Row.sl {c : Nat} (h : Row t w g zs) (hu : ∀ x ∈ zs, U x) (hc : zs.length ≤ c) : Sl w (some ⟨g, 0, none⟩) zs.length c zs :=
  ⟨⟨rfl, hc, hu⟩, fun _ => ⟨g, 0, rfl, h.lt, fun j hj => by rw [Nat.zero_add]; exact h.cell hj⟩⟩
end
/-- what append's laws own is such a slice -/
theorem Sl.of_own {w : World} {base : Nat} {t : TypeId} {A : Option Addr} {n c : Nat} {zs : List Int} (h : w.ownsRow base t 1 (.slice A n c) n (zs.map (Value.int .u64))) (hu : ∀ x ∈ zs, U x) : Sl w A n c zs := by
  have hl : zs.length = n := by have := h.1; simpa using this
  obtain ⟨h1, h2⟩ := h
  rcases h2 with ⟨hv, hz⟩ | ⟨g, cap, cur, hv, _, hh, hnc, r⟩
  · injection hv with ha hb hc
    subst ha hb hc
    exact ⟨⟨hl, Nat.le_refl _, hu⟩, fun h => absurd h (by omega)⟩
  · have own : w.ownsRow base t 1 (.slice A n c) n (zs.map (Value.int .u64)) := ⟨h1, .inr ⟨g, cap, cur, hv, ‹_›, hh, hnc, r⟩⟩
    injection hv with ha _ hc
    subst ha hc
    have hlt : g < w.heap.size := (own.lt g rfl).2
    refine ⟨⟨hl, hnc, hu⟩, fun _ => ⟨g, 0, rfl, hlt, fun j hj => ?_⟩⟩
    rw [Nat.zero_add, own.cellAt j (by omega)]
    simp [List.getD_eq_getElem?_getD, List.getElem?_eq_getElem (show j < zs.length by omega)]

/-- a call that returns a slice that reads as xs, and turns nothing that was there -/
def RetSl (xs : List Int) (w : World) (e : Ending) (w' : World) : Prop := ∃ A n c, e = .returned (.slice A n c) ∧ Sl w' A n c xs ∧ Below w.heap.size w w'

theorem below_drewN (w : World) (n : Nat) : Below w.heap.size w (w.drewN n) := ⟨rfl, rfl, rfl, Nat.le_refl _, fun _ _ => rfl⟩
theorem Below.drewN' {B : Nat} {a w : World} (h : Below B a w) (n : Nat) : Below B a (w.drewN n) := ⟨h.os, h.tape, h.output, h.size, h.block⟩

/-- the address lies in memory that was not there -/
def New (w : World) (A : Option Addr) : Prop := ∀ b off, A = some ⟨b, off, none⟩ → w.heap.size ≤ b
theorem New.some_ {w : World} {b off : Nat} (h : w.heap.size ≤ b) : New w (some ⟨b, off, none⟩) := by
  rintro b' off' e
  injection e with e
  injection e with e1
  omega
theorem New.none_ (w : World) : New w none := by rintro b off e; cases e
theorem New.mono {w w' : World} {A : Option Addr} (h : New w' A) (hs : w.heap.size ≤ w'.heap.size) : New w A := fun b off e => Nat.le_trans hs (h b off e)
/-- .. in new memory -/
def RetSlN (xs : List Int) (w : World) (e : Ending) (w' : World) : Prop := ∃ A n c, e = .returned (.slice A n c) ∧ Sl w' A n c xs ∧ Below w.heap.size w w' ∧ New w A
theorem RetSlN.old {xs : List Int} {w w' : World} {e : Ending} (h : RetSlN xs w e w') : RetSl xs w e w' := by
  obtain ⟨A, n, c, he, hs, hb, _⟩ := h
  exact ⟨A, n, c, he, hs, hb⟩

/-- a slice of integers that came in, as the row's frame tells it -/
def IsRow (k : IntKind) (w : World) (a : Option Addr) (len cap : Nat) (zs : List Int) : Prop :=
  (a = none ∧ len = 0 ∧ cap = 0 ∧ zs = []) ∨
  ∃ x, a = some x ∧ len ≤ cap ∧ cap ≤ maxLen ∧ zs.length = cap ∧ (∀ i, i < zs.length → w.cell? (x.add i) = some (.int k (zs.getD i 0))) ∧ ∀ n ∈ zs, (Lit.int k n).wf = true
theorem IsRow.sl {w : World} {a : Option Addr} {len cap : Nat} {zs : List Int} (h : IsRow .u64 w a len cap zs) : Sl w a len cap (zs.take len) ∧ len ≤ maxLen := by
  rcases h with ⟨rfl, rfl, rfl, rfl⟩ | ⟨x, rfl, hl, hm, hz, hcell, hwz⟩
  · exact ⟨Sl.nil _ _ _, by unfold maxLen; omega⟩
  · refine ⟨⟨⟨by rw [List.length_take]; omega, hl, fun y hy => U_of_wf (hwz y (List.mem_of_mem_take hy))⟩, fun h0 => ?_⟩, by omega⟩
    obtain ⟨b, off, spot⟩ := x
    have hc := hcell 0 (by omega)
    have hspot : spot = none := by simpa [Addr.add] using World.cell?_spot hc
    subst hspot
    have hlt : b < w.heap.size := by
      rcases Nat.lt_or_ge b w.heap.size with h9 | h9
      · exact h9
      · exfalso
        simp [Addr.add, World.cell?, Array.getElem?_eq_none h9] at hc
    refine ⟨b, off, rfl, hlt, fun j hj => ?_⟩
    have hcj := hcell j (by omega)
    have e : ((⟨b, off, none⟩ : Addr).add j) = ⟨b, off + j, none⟩ := by
      unfold Addr.add; split
      · subst_vars; rfl
      · rfl
    rw [e] at hcj
    rw [hcj]
    simp [List.getD_eq_getElem?_getD, List.getElem?_take, hj]

/-- the first k places are the same -/
def SameTo (xs ys : List Int) (k : Nat) : Prop := ∀ j, j < k → xs.getD j 0 = ys.getD j 0
theorem SameTo.step {xs ys : List Int} {k : Nat} (h : SameTo xs ys k) (h0 : xs.getD k 0 = ys.getD k 0) : SameTo xs ys (k + 1) := fun j hj => by
  rcases Nat.lt_or_ge j k with hl | hl
  · exact h j hl
  · rw [show j = k by omega]; exact h0
theorem SameTo.all {xs ys : List Int} (hl : xs.length = ys.length) (h : SameTo xs ys xs.length) : xs = ys := by
  apply List.ext_getElem hl
  intro i h1 h2
  have := h i h1
  simpa [List.getD_eq_getElem?_getD, h1, h2] using this

end Go.Proofs.Ythhmofmncjodfaa
