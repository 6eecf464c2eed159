/-
  The reverse pass by the document, plainly: how long its sums get, and which powers of two their denominators hold; rows of numbers beside a row that is stored into. Conditions: as each lemma says.
-/
import Derived.RangeFuncNested
import Derived.RangeFuncBound
import Derived.RangeFuncCalls
import Derived.RangeFuncLeaves
import Derived.Shelf.Abstract
import Derived.Shelf.RegionOpen
import Derived.WalkKit
import Derived.OwnWalkIn
import Derived.TacticsInMore
import Derived.LoopNIn
import Derived.LoopIn
import Derived.Test.YtfhihapgjiaobaaGreatLnMemAllB
import Derived.Test.YtfhihapgjiaobaaGreatLnCAllB
import Derived.Test.YtfhihapgjiaobaaGreatRatRightAllB
import Derived.Test.YtfhihapgjiaobaaGreatTgIOneB
import Derived.Test.YtfhihapgjiaobaaGreatTgMoreAllB
import Derived.Test.YtfhihapgjiaobaaGreatTgNAllB
import Derived.Test.YtfhihapgjiaobaaGreatTgNeAllB
import Derived.Deep.RegionHeld3
import Derived.Sort.CutIn
import Derived.Test.YtfhihapgjiaobaaGreatTgSzAllB
namespace Go.Proofs.YtfhihapgjiaobaaGreat
set_option maxRecDepth 100000
open Go.RowKit Go.Shelf
set_option linter.unusedVariables false
set_option linter.unusedSimpArgs false
attribute [local go_sem] Oper.semAt_some

def RI.agg (x : RI) : Value := .agg #[.int .i64 x.op, .int .i64 x.a, .int .i64 x.b, .bool x.q.s, .slice x.q.A x.q.n x.q.c, .slice x.q.A' x.q.n' x.q.c']
/-- below B all blocks but g stay -/
def KX (B g : Nat) (W W' : World) : Prop := W.heap.size ≤ W'.heap.size ∧ ∀ b, b < B → b ≠ g → W'.heap[b]? = W.heap[b]?
theorem KX.refl (B g : Nat) (W : World) : KX B g W W := ⟨Nat.le_refl _, fun _ _ _ => rfl⟩
theorem KX.trans {B g : Nat} {X Y Z : World} (h : KX B g X Y) (k : KX B g Y Z) : KX B g X Z := ⟨Nat.le_trans h.1 k.1, fun b h1 h2 => (k.2 b h1 h2).trans (h.2 b h1 h2)⟩
theorem KX.cell {B g : Nat} {W W' : World} (h : KX B g W W') {b i : Nat} (h1 : b < B) (h2 : b ≠ g) : W'.cell? ⟨b, i, none⟩ = W.cell? ⟨b, i, none⟩ := World.cell?_of_block (a := ⟨b, i, none⟩) (h.2 b h1 h2)
theorem rev_take {n k : Nat} (h : k < n) : (List.range n).reverse.take (k + 1) = (List.range n).reverse.take k ++ [n - 1 - k] := by
  have hl : k < (List.range n).reverse.length := by simpa using h
  rw [List.take_succ_eq_append_getElem hl, List.getElem_reverse]
  simp

set_option maxRecDepth 100000 in
set_option maxHeartbeats 2000000 in
theorem bk1 (n : Nat) (hn : 1 ≤ n) (l Bs B g : Nat) (A : Option Addr) (len cap : Nat) (xs : List RI) (hlen : len ≤ 65536) (hBs : Bs < B) (hBg : Bs ≠ g) (J Jx : List { i : Nat // i < len } → World → Prop)
    (hY : ∀ pre x W, J pre W → pre.length < len → YieldAt Fence.wide (n - 1) Tryz.prog l #[.int .i64 (x.1 : Int), (xs.getD x.1 default).agg] W fun e W' =>
      (e = .returned (.bool true) ∧ J (pre ++ [x]) W' ∧ KX B g W W') ∨ (e = .returned (.bool false) ∧ Jx (pre ++ [x]) W'))
    (W : World) (hBc : W.cell? ⟨Bs, 0, none⟩ = some (.slice A len cap))
    (hc : ∀ j, j < len → ∃ b off, A = some ⟨b, off, none⟩ ∧ b < B ∧ b ≠ g ∧ W.cell? ⟨b, off + j * 6, none⟩ = some (.int .i64 (xs.getD j default).op) ∧ W.cell? ⟨b, off + j * 6 + 1, none⟩ = some (.int .i64 (xs.getD j default).a) ∧ W.cell? ⟨b, off + j * 6 + 2, none⟩ = some (.int .i64 (xs.getD j default).b) ∧ W.cell? ⟨b, off + j * 6 + 3, none⟩ = some (.bool (xs.getD j default).q.s) ∧ W.cell? ⟨b, off + j * 6 + 4, none⟩ = some (.slice (xs.getD j default).q.A (xs.getD j default).q.n (xs.getD j default).q.c) ∧ W.cell? ⟨b, off + j * 6 + 5, none⟩ = some (.slice (xs.getD j default).q.A' (xs.getD j default).q.n' (xs.getD j default).q.c'))
    (h0 : J [] W) :
    CallsIn Fence.wide n Tryz.prog 71 #[.func (.yield l) #[] #[], .pointer (some ⟨Bs, 0, none⟩)] W fun e W' => (∃ v, e = .returned v) ∧
      ((∃ ys, ys.map Subtype.val = (List.range len).reverse ∧ J ys W') ∨ (∃ pre, True ∧ Jx pre W')) := by
  refine callsIn_of_wp Tryz.func71 rfl trivial ?_ rfl
  simp only [Tryz.ntmps71, List.size_toArray, List.length_cons, List.length_nil, Nat.reduceAdd, Nat.reduceSub, Array.replicate_succ, Array.replicate_zero, List.push_toArray, List.append_toArray, List.nil_append, List.cons_append]
  gi_wp2
  gi_loopw [3] (fun i wr => ∃ (k : Nat) (z : Int) (ys : List { i : Nat // i < len }), k ≤ len ∧ z = (len : Int) - 1 - k ∧ i = .int .i64 z ∧ ys.map Subtype.val = (List.range len).reverse.take k ∧ J ys wr ∧ KX B g W wr)
    (fun i _ => (intOf i + 1).toNat)
  case atStart => exact ⟨0, (len : Int) - 1, [], by omega, by omega, by go_num, by simp, h0, KX.refl _ _ _⟩
  case round =>
    obtain ⟨k, z, ys, hk, hz, rfl, hys, hJs, hkx⟩ := hrel
    have hBr : wr.cell? ⟨Bs, 0, none⟩ = some (.slice A len cap) := (hkx.cell hBs hBg).trans hBc
    have hyl : ys.length = k := by
      have : (ys.map Subtype.val).length = k := by rw [hys]; simp; omega
      simpa using this
    by_cases hlt : k < len
    · obtain ⟨t, ht⟩ : ∃ t : Nat, t = len - 1 - k := ⟨_, rfl⟩
      have htl : t < len := by omega
      have hzt : z = (t : Int) := by omega
      obtain ⟨b, off, rfl, hb1, hb2, c0, c1, c2, c3, c4, c5⟩ := hc t htl
      obtain ⟨fn, tmps, assign, body, hy, hR⟩ := hY ys ⟨t, htl⟩ wr hJs (by omega)
      have d0 := (hkx.cell (i := off + t * 6) hb1 hb2).trans c0
      have d1 := (hkx.cell (i := off + t * 6 + 1) hb1 hb2).trans c1
      have d2 := (hkx.cell (i := off + t * 6 + 2) hb1 hb2).trans c2
      have d3 := (hkx.cell (i := off + t * 6 + 3) hb1 hb2).trans c3
      have d4 := (hkx.cell (i := off + t * 6 + 4) hb1 hb2).trans c4
      have d5 := (hkx.cell (i := off + t * 6 + 5) hb1 hb2).trans c5
      have hys2 : (ys ++ [(⟨t, htl⟩ : { i : Nat // i < len })]).map Subtype.val = (List.range len).reverse.take (k + 1) := by rw [rev_take hlt, List.map_append, hys, ← ht]; rfl
      unfold RI.agg at hy
      dsimp only at hy
      generalize xs.getD t default = x at *
      subst hzt
      have HR := Lib.hid hR
      have HZ := Lib.hid hz
      have HYS := Lib.hid hys2
      clear hc c0 c1 c2 c3 c4 c5 hys hys2 hR hY ht hz
      gi_wp2
      refine HR.out.mono ?_
      rintro e W3 (⟨rfl, hJ3, hk3⟩ | ⟨rfl, hJx3⟩)
      · gi_wp2
        go_roundw
        case rel => exact ⟨k + 1, (t : Int) - 1, _, by omega, by have := HZ.out; omega, by go_num, HYS.out, hJ3, hkx.trans hk3⟩
        case measure => simp [intOf]
      · gi_wp2
        refine bodyPost_ret (results_none rfl _ _ _) rfl ?_
        exact ⟨⟨_, rfl⟩, .inr ⟨_, trivial, hJx3⟩⟩
    · obtain rfl : k = len := by omega
      have hz1 : z = -1 := by omega
      subst hz1
      rw [List.take_of_length_le (by simp)] at hys
      clear hc hY hyl
      gi_wp2
      go_end0
      exact ⟨⟨_, rfl⟩, .inl ⟨ys, hys, hJs⟩⟩

set_option maxHeartbeats 1000000 in
theorem bk0 (n : Nat) (a : Option Addr) (len cap : Nat) (w : World) :
    CallsIn Fence.wide n Tryz.prog 35 #[.slice a len cap] w fun e w' => e = .returned (.func (.func 71) #[] #[.pointer (some ⟨w.heap.size, 0, none⟩)]) ∧ w' = w.alloc (.cells #[.slice a len cap] 22) := by
  refine callsIn_of_wp Tryz.func35 rfl trivial ?_ rfl
  simp only [Tryz.ntmps35, List.size_toArray, List.length_cons, List.length_nil, Nat.reduceAdd, Nat.reduceSub, Array.replicate_succ, Array.replicate_zero, List.push_toArray, List.append_toArray, List.nil_append, List.cons_append]
  gi_wp2
  go_ret
  exact ⟨rfl, rfl⟩

end Go.Proofs.YtfhihapgjiaobaaGreat

namespace Go.Proofs.YtfhihapgjiaobaaGreat
set_option maxRecDepth 100000
open Go.RowKit
set_option linter.unusedVariables false
set_option linter.unusedSimpArgs false

end Go.Proofs.YtfhihapgjiaobaaGreat

namespace Go.Proofs.YtfhihapgjiaobaaGreat
set_option maxRecDepth 100000
open Go.RowKit Go.Shelf
set_option linter.unusedVariables false
set_option linter.unusedSimpArgs false
attribute [local go_sem] Oper.semAt_some

/-- a row of truths -/
def BRow (w : World) (g : Nat) (bs : List Bool) : Prop := Box 4 w g (bs.map Value.bool).toArray
theorem BRow.cell {w : World} {g : Nat} {bs : List Bool} (h : BRow w g bs) {i : Nat} (hi : i < bs.length) : w.cell? ⟨g, i, none⟩ = some (.bool (bs.getD i false)) := by
  rw [Box.cell h]
  simp [List.getD, hi]
theorem BRow.free {w : World} {g : Nat} {bs : List Bool} (h : BRow w g bs) (i : Nat) : w.frozen? ⟨g, i, none⟩ = false := Box.free h i
theorem BRow.set {w : World} {g : Nat} {bs : List Bool} (h : BRow w g bs) (i : Nat) (b : Bool) : BRow (w.setCell ⟨g, i, none⟩ (.bool b)) g (bs.set i b) := by
  unfold BRow Box at *
  unfold World.setCell
  simp [Array.getElem?_modify, h, List.map_set]
theorem BRow.lt {w : World} {g : Nat} {bs : List Bool} (h : BRow w g bs) : g < w.heap.size := Box.lt h
theorem KX.of_below {g : Nat} {W W' : World} (h : Below W.heap.size W W') : KX W.heap.size g W W' := ⟨h.size, fun b hb _ => h.block b hb⟩
theorem KX.mono {B B' g : Nat} {W W' : World} (h : KX B g W W') (hB : B' ≤ B) : KX B' g W W' := ⟨h.1, fun b h1 h2 => h.2 b (by omega) h2⟩
theorem KX.setCell {B g i : Nat} {W W' : World} (h : KX B g W W') (v : Value) : KX B g W (W'.setCell ⟨g, i, none⟩ v) := by
  have hk := (Keep.refl g W').setCell i v
  refine ⟨Nat.le_trans h.1 hk.size, fun b h1 h2 => ?_⟩
  by_cases hlt : b < W'.heap.size
  · exact (hk.block b hlt h2).trans (h.2 b h1 h2)
  · have e1 : W.heap[b]? = none := Array.getElem?_eq_none (by have := h.1; omega)
    rw [e1, Array.getElem?_eq_none]
    have : (W'.setCell ⟨g, i, none⟩ v).heap.size = W'.heap.size := by unfold World.setCell; simp
    omega
theorem wp_named {c : Code} {F : Fence} {n : Nat} {P : Program} {Q : Exit → Act → World → Prop} {a : Act} {w : World} (h : ∀ a0 : Act, a0 = a → c.wpIn F n P Q a0 w) : c.wpIn F n P Q a w := h a rfl

end Go.Proofs.YtfhihapgjiaobaaGreat

namespace Go.Proofs.YtfhihapgjiaobaaGreat
set_option maxRecDepth 100000
open Go.RowKit Go.Shelf
set_option linter.unusedVariables false
set_option linter.unusedSimpArgs false
attribute [local go_sem] Oper.semAt_some

/-- below B all blocks but two stay -/
def KY (B g g2 : Nat) (W W' : World) : Prop := W.heap.size ≤ W'.heap.size ∧ ∀ b, b < B → b ≠ g → b ≠ g2 → W'.heap[b]? = W.heap[b]?
theorem KY.refl (B g g2 : Nat) (W : World) : KY B g g2 W W := ⟨Nat.le_refl _, fun _ _ _ _ => rfl⟩
theorem KY.trans {B g g2 : Nat} {X Y Z : World} (h : KY B g g2 X Y) (k : KY B g g2 Y Z) : KY B g g2 X Z := ⟨Nat.le_trans h.1 k.1, fun b h1 h2 h3 => (k.2 b h1 h2 h3).trans (h.2 b h1 h2 h3)⟩
theorem KY.cell {B g g2 : Nat} {W W' : World} (h : KY B g g2 W W') {b i : Nat} (h1 : b < B) (h2 : b ≠ g) (h3 : b ≠ g2) : W'.cell? ⟨b, i, none⟩ = W.cell? ⟨b, i, none⟩ := World.cell?_of_block (a := ⟨b, i, none⟩) (h.2 b h1 h2 h3)

set_option maxRecDepth 100000 in
set_option maxHeartbeats 2000000 in
theorem bk2 (n : Nat) (hn : 1 ≤ n) (l Bs B g g2 : Nat) (A : Option Addr) (len cap : Nat) (xs : List RI) (hlen : len ≤ 65536) (hBs : Bs < B) (hBg : Bs ≠ g) (hBg2 : Bs ≠ g2) (J Jx : List { i : Nat // i < len } → World → Prop)
    (hY : ∀ pre x W, J pre W → pre.length < len → YieldAt Fence.wide (n - 1) Tryz.prog l #[.int .i64 (x.1 : Int), (xs.getD x.1 default).agg] W fun e W' =>
      (e = .returned (.bool true) ∧ J (pre ++ [x]) W' ∧ KY B g g2 W W') ∨ (e = .returned (.bool false) ∧ Jx (pre ++ [x]) W'))
    (W : World) (hBc : W.cell? ⟨Bs, 0, none⟩ = some (.slice A len cap))
    (hc : ∀ j, j < len → ∃ b off, A = some ⟨b, off, none⟩ ∧ b < B ∧ b ≠ g ∧ b ≠ g2 ∧ W.cell? ⟨b, off + j * 6, none⟩ = some (.int .i64 (xs.getD j default).op) ∧ W.cell? ⟨b, off + j * 6 + 1, none⟩ = some (.int .i64 (xs.getD j default).a) ∧ W.cell? ⟨b, off + j * 6 + 2, none⟩ = some (.int .i64 (xs.getD j default).b) ∧ W.cell? ⟨b, off + j * 6 + 3, none⟩ = some (.bool (xs.getD j default).q.s) ∧ W.cell? ⟨b, off + j * 6 + 4, none⟩ = some (.slice (xs.getD j default).q.A (xs.getD j default).q.n (xs.getD j default).q.c) ∧ W.cell? ⟨b, off + j * 6 + 5, none⟩ = some (.slice (xs.getD j default).q.A' (xs.getD j default).q.n' (xs.getD j default).q.c'))
    (h0 : J [] W) :
    CallsIn Fence.wide n Tryz.prog 71 #[.func (.yield l) #[] #[], .pointer (some ⟨Bs, 0, none⟩)] W fun e W' => (∃ v, e = .returned v) ∧
      ((∃ ys, ys.map Subtype.val = (List.range len).reverse ∧ J ys W') ∨ (∃ pre, (∃ k, pre.map Subtype.val = (List.range len).reverse.take k) ∧ Jx pre W')) := by
  refine callsIn_of_wp Tryz.func71 rfl trivial ?_ rfl
  simp only [Tryz.ntmps71, List.size_toArray, List.length_cons, List.length_nil, Nat.reduceAdd, Nat.reduceSub, Array.replicate_succ, Array.replicate_zero, List.push_toArray, List.append_toArray, List.nil_append, List.cons_append]
  gi_wp2
  gi_loopw [3] (fun i wr => ∃ (k : Nat) (z : Int) (ys : List { i : Nat // i < len }), k ≤ len ∧ z = (len : Int) - 1 - k ∧ i = .int .i64 z ∧ ys.map Subtype.val = (List.range len).reverse.take k ∧ J ys wr ∧ KY B g g2 W wr)
    (fun i _ => (intOf i + 1).toNat)
  case atStart => exact ⟨0, (len : Int) - 1, [], by omega, by omega, by go_num, by simp, h0, KY.refl _ _ _ _⟩
  case round =>
    obtain ⟨k, z, ys, hk, hz, rfl, hys, hJs, hkx⟩ := hrel
    have hBr : wr.cell? ⟨Bs, 0, none⟩ = some (.slice A len cap) := (hkx.cell hBs hBg hBg2).trans hBc
    have hyl : ys.length = k := by
      have : (ys.map Subtype.val).length = k := by rw [hys]; simp; omega
      simpa using this
    by_cases hlt : k < len
    · obtain ⟨t, ht⟩ : ∃ t : Nat, t = len - 1 - k := ⟨_, rfl⟩
      have htl : t < len := by omega
      have hzt : z = (t : Int) := by omega
      obtain ⟨b, off, rfl, hb1, hb2, hb3, c0, c1, c2, c3, c4, c5⟩ := hc t htl
      obtain ⟨fn, tmps, assign, body, hy, hR⟩ := hY ys ⟨t, htl⟩ wr hJs (by omega)
      have d0 := (hkx.cell (i := off + t * 6) hb1 hb2 hb3).trans c0
      have d1 := (hkx.cell (i := off + t * 6 + 1) hb1 hb2 hb3).trans c1
      have d2 := (hkx.cell (i := off + t * 6 + 2) hb1 hb2 hb3).trans c2
      have d3 := (hkx.cell (i := off + t * 6 + 3) hb1 hb2 hb3).trans c3
      have d4 := (hkx.cell (i := off + t * 6 + 4) hb1 hb2 hb3).trans c4
      have d5 := (hkx.cell (i := off + t * 6 + 5) hb1 hb2 hb3).trans c5
      have hys2 : (ys ++ [(⟨t, htl⟩ : { i : Nat // i < len })]).map Subtype.val = (List.range len).reverse.take (k + 1) := by rw [rev_take hlt, List.map_append, hys, ← ht]; rfl
      unfold RI.agg at hy
      dsimp only at hy
      generalize xs.getD t default = x at *
      subst hzt
      have HR := Lib.hid hR
      have HZ := Lib.hid hz
      have HYS := Lib.hid hys2
      clear hc c0 c1 c2 c3 c4 c5 hys hys2 hR hY ht hz
      gi_wp2
      refine HR.out.mono ?_
      rintro e W3 (⟨rfl, hJ3, hk3⟩ | ⟨rfl, hJx3⟩)
      · gi_wp2
        go_roundw
        case rel => exact ⟨k + 1, (t : Int) - 1, _, by omega, by have := HZ.out; omega, by go_num, HYS.out, hJ3, hkx.trans hk3⟩
        case measure => simp [intOf]
      · gi_wp2
        refine bodyPost_ret (results_none rfl _ _ _) rfl ?_
        exact ⟨⟨_, rfl⟩, .inr ⟨_, ⟨k + 1, HYS.out⟩, hJx3⟩⟩
    · obtain rfl : k = len := by omega
      have hz1 : z = -1 := by omega
      subst hz1
      rw [List.take_of_length_le (by simp)] at hys
      clear hc hY hyl
      gi_wp2
      go_end0
      exact ⟨⟨_, rfl⟩, .inl ⟨ys, hys, hJs⟩⟩


/-- what an instruction that is no input hands on -/
def giveV (x : PI) (G Y : Rat) (v us : List Rat) : Except Int (List Rat) :=
  if arity x.op < 1 then .ok us else if tden x Y v = 0 then .error 4
  else .ok (if arity x.op = 2 then addAt (addAt us x.a.toNat (G * dA x Y v)) x.b.toNat (G * dB x Y v) else addAt us x.a.toNat (G * dA x Y v))
theorem giveSt_no {v : List Rat} {i : Nat} {x : PI} {s : List Rat × List Rat} (h1 : ¬ x.op = 1) (hb : ¬ 4096 < bitsQ (s.1.getD i 0)) : giveSt v i x s = match giveV x (s.1.getD i 0) (v.getD i 0) v s.1 with | .error e => .error e | .ok us => .ok (us, s.2) := by
  unfold giveSt giveV
  rw [if_neg hb, if_neg h1]
  by_cases h2 : arity x.op < 1
  · rw [if_pos h2, if_pos h2]
  · rw [if_neg h2, if_neg h2]
    by_cases h3 : tden x (v.getD i 0) v = 0
    · rw [if_pos h3, if_pos h3]
    · rw [if_neg h3, if_neg h3]
theorem giveSt_in {v : List Rat} {i : Nat} {x : PI} {s : List Rat × List Rat} (h1 : x.op = 1) (hb : ¬ 4096 < bitsQ (s.1.getD i 0)) : giveSt v i x s = .ok (s.1, addAt s.2 x.a.toNat (s.1.getD i 0)) := by
  unfold giveSt
  rw [if_neg hb, if_pos h1]
theorem giveSt_big {v : List Rat} {i : Nat} {x : PI} {s : List Rat × List Rat} (hb : 4096 < bitsQ (s.1.getD i 0)) : giveSt v i x s = .error 5 := by
  unfold giveSt
  rw [if_pos hb]
section
variable {a b : Int} {q : Bool × List Int × List Int} {G Y : Rat} {v us : List Rat}
theorem giveV_one {op : Int} (ha : arity op = 1) (h : ¬ tden ⟨op, a, b, q⟩ Y v = 0) {Z : Rat} (e : G * dA ⟨op, a, b, q⟩ Y v = Z) : giveV ⟨op, a, b, q⟩ G Y v us = .ok (addAt us a.toNat Z) := by
  unfold giveV
  simp only
  rw [if_neg (by omega), if_neg h, if_neg (by omega), e]
theorem giveV_two {op : Int} (ha : arity op = 2) (h : ¬ tden ⟨op, a, b, q⟩ Y v = 0) {Z Z' : Rat} (e : G * dA ⟨op, a, b, q⟩ Y v = Z) (e' : G * dB ⟨op, a, b, q⟩ Y v = Z') : giveV ⟨op, a, b, q⟩ G Y v us = .ok (addAt (addAt us a.toNat Z) b.toNat Z') := by
  unfold giveV
  simp only
  rw [if_neg (by omega), if_neg h, if_pos (by omega), e, e']
theorem giveV_no {op : Int} (ha : ¬ arity op < 1) (h : tden ⟨op, a, b, q⟩ Y v = 0) : giveV ⟨op, a, b, q⟩ G Y v us = .error 4 := by
  unfold giveV
  simp only
  rw [if_neg ha, if_pos h]
theorem giveV_2 : giveV ⟨2, a, b, q⟩ G Y v us = .ok us := by
  unfold giveV
  rw [if_pos (show arity 2 < 1 by decide)]
theorem giveV_3 : giveV ⟨3, a, b, q⟩ G Y v us = .ok (addAt us a.toNat (-G)) := giveV_one (by decide) (by exact rat_one_ne) (by show G * (-1) = _; grind)
theorem giveV_4 : giveV ⟨4, a, b, q⟩ G Y v us = .ok (addAt (addAt us a.toNat G) b.toNat G) := giveV_two (by decide) (by exact rat_one_ne) (by show G * 1 = _; grind) (by show G * 1 = _; grind)
theorem giveV_5 : giveV ⟨5, a, b, q⟩ G Y v us = .ok (addAt (addAt us a.toNat G) b.toNat (-G)) := giveV_two (by decide) (by exact rat_one_ne) (by show G * 1 = _; grind) (by show G * (-1) = _; grind)
theorem giveV_6 : giveV ⟨6, a, b, q⟩ G Y v us = .ok (addAt (addAt us a.toNat (G * v.getD b.toNat 0)) b.toNat (G * v.getD a.toNat 0)) := giveV_two (by decide) (by exact rat_one_ne) rfl rfl
theorem giveV_7 (h : ¬ v.getD b.toNat 0 = 0) : giveV ⟨7, a, b, q⟩ G Y v us = .ok (addAt (addAt us a.toNat (G / v.getD b.toNat 0)) b.toNat (-(G / v.getD b.toNat 0 * Y))) := giveV_two (by decide) (by exact h) (by show G * (v.getD b.toNat 0)⁻¹ = _; rw [Rat.div_def]) (by show G * (-(Y * (v.getD b.toNat 0)⁻¹)) = _; rw [Rat.div_def]; grind)
theorem giveV_8 (h : ¬ Y + Y = 0) : giveV ⟨8, a, b, q⟩ G Y v us = .ok (addAt us a.toNat (G / (Y + Y))) := giveV_one (by decide) (by exact h) (by show G * (Y + Y)⁻¹ = _; rw [Rat.div_def])
theorem giveV_8n (h : Y + Y = 0) : giveV ⟨8, a, b, q⟩ G Y v us = .error 4 := giveV_no (by decide) (by exact h)
theorem giveV_9 : giveV ⟨9, a, b, q⟩ G Y v us = .ok (addAt us a.toNat (G * Y)) := giveV_one (by decide) (by exact rat_one_ne) rfl
theorem giveV_10 (h : ¬ v.getD a.toNat 0 = 0) : giveV ⟨10, a, b, q⟩ G Y v us = .ok (addAt us a.toNat (G / v.getD a.toNat 0)) := giveV_one (by decide) (by exact h) (by show G * (v.getD a.toNat 0)⁻¹ = _; rw [Rat.div_def])
theorem giveV_10n (h : v.getD a.toNat 0 = 0) : giveV ⟨10, a, b, q⟩ G Y v us = .error 4 := giveV_no (by decide) (by exact h)
end
theorem giveV_err {x : PI} {G Y : Rat} {v us : List Rat} {e : Int} (h : giveV x G Y v us = .error e) : e = 4 := by
  unfold giveV at h
  split at h
  · cases h
  · split at h
    · injection h with h; exact h.symm
    · cases h

theorem tg_handOn {w : World} {A : Option Addr} {n c B g l cap N : Nat} {v Xs : List Rat} {x : RI} {s_y : Bool} {A_y D_y : Option Addr} {n_y c_y m_y d_y : Nat} {Y : Rat} {s_g : Bool} {A_g D_g : Option Addr} {n_g c_g m_g d_g : Nat} {G : Rat} (q_y : Q w s_y A_y n_y c_y D_y m_y d_y Y) (z_y : Sz Y 64) (q_g : Q w s_g A_g n_g c_g D_g m_g d_g G) (z_g : Sz G 64) (hv : SlQ w A n c v) (zv : AllSz 64 v) (hne : ∀ b off, A = some ⟨b, off, none⟩ → b ≠ g) (o0 : OwnQ B w (.slice (some ⟨g, 0, none⟩) l cap) Xs) (zX : AllSz N Xs) (hN1 : 300 ≤ N) (hN : N ≤ 39000) (hl : l ≤ n) (hn : n ≤ 65536) {i : Nat} (hi : i < l) (hfit : fits vq nq x.pi i) (h1 : ¬ x.op = 1) (h7 : x.op = 7 → v.getD x.b.toNat 0 ≠ 0) :
    Calls Tryz.prog 36 #[.agg #[.int .i64 x.op, .int .i64 x.a, .int .i64 x.b, .bool x.q.s, .slice x.q.A x.q.n x.q.c, .slice x.q.A' x.q.n' x.q.c'], .agg #[.bool s_y, .slice A_y n_y c_y, .slice D_y m_y d_y], .agg #[.bool s_g, .slice A_g n_g c_g, .slice D_g m_g d_g], .slice A n c, .slice (some ⟨g, 0, none⟩) l cap] w (RetHand B g l cap (giveV x.pi G Y v Xs) w) := by
  obtain ⟨op, a, b, q⟩ := x
  simp only at h1 h7 ⊢
  have hfit : fits vq nq ⟨op, a, b, (q.s, q.z, q.z')⟩ i := hfit
  show Calls _ _ _ w (RetHand B g l cap (giveV ⟨op, a, b, (q.s, q.z, q.z')⟩ G Y v Xs) w)
  rcases op_cases op with (rfl | rfl | rfl | rfl | rfl | rfl | rfl | rfl | rfl | rfl) | hno
  · exact absurd rfl h1
  · have hc : a = 0 := by
      unfold fits at hfit
      simp at hfit
      exact hfit.1
    obtain ⟨k, rfl⟩ : ∃ k : Nat, a = (k : Int) := ⟨0, by rw [hc]; rfl⟩
    rw [giveV_2]
    exact ho_const q_y z_y q_g z_g hv zv hne o0 zX hN1 hN hl hn (show k < l by omega)
  · obtain ⟨g1, g2⟩ := fit_one (by decide) (by decide) (by decide) hfit
    obtain ⟨k, rfl⟩ : ∃ k : Nat, a = (k : Int) := ⟨a.toNat, by omega⟩
    rw [giveV_3]
    exact ho_neg q_y z_y q_g z_g hv zv hne o0 zX hN1 hN hl hn (show k < l by omega)
  · obtain ⟨g1, g2, g3, g4⟩ := fit_two (by decide) (by decide) (by decide) hfit
    obtain ⟨k, rfl⟩ : ∃ k : Nat, a = (k : Int) := ⟨a.toNat, by omega⟩
    obtain ⟨j, rfl⟩ : ∃ j : Nat, b = (j : Int) := ⟨b.toNat, by omega⟩
    rw [giveV_4]
    exact ho_add q_y z_y q_g z_g hv zv hne o0 zX hN1 hN hl hn (show k < l by omega) (show j < l by omega)
  · obtain ⟨g1, g2, g3, g4⟩ := fit_two (by decide) (by decide) (by decide) hfit
    obtain ⟨k, rfl⟩ : ∃ k : Nat, a = (k : Int) := ⟨a.toNat, by omega⟩
    obtain ⟨j, rfl⟩ : ∃ j : Nat, b = (j : Int) := ⟨b.toNat, by omega⟩
    rw [giveV_5]
    exact ho_sub q_y z_y q_g z_g hv zv hne o0 zX hN1 hN hl hn (show k < l by omega) (show j < l by omega)
  · obtain ⟨g1, g2, g3, g4⟩ := fit_two (by decide) (by decide) (by decide) hfit
    obtain ⟨k, rfl⟩ : ∃ k : Nat, a = (k : Int) := ⟨a.toNat, by omega⟩
    obtain ⟨j, rfl⟩ : ∃ j : Nat, b = (j : Int) := ⟨b.toNat, by omega⟩
    rw [giveV_6]
    exact ho_mul q_y z_y q_g z_g hv zv hne o0 zX hN1 hN hl hn (show k < l by omega) (show j < l by omega)
  · obtain ⟨g1, g2, g3, g4⟩ := fit_two (by decide) (by decide) (by decide) hfit
    obtain ⟨k, rfl⟩ : ∃ k : Nat, a = (k : Int) := ⟨a.toNat, by omega⟩
    obtain ⟨j, rfl⟩ : ∃ j : Nat, b = (j : Int) := ⟨b.toNat, by omega⟩
    have h0 := h7 rfl
    rw [giveV_7 h0]
    exact ho_div q_y z_y q_g z_g hv zv hne o0 zX hN1 hN hl hn (show k < l by omega) (show j < l by omega) (by simpa using h0)
  · obtain ⟨g1, g2⟩ := fit_one (by decide) (by decide) (by decide) hfit
    obtain ⟨k, rfl⟩ : ∃ k : Nat, a = (k : Int) := ⟨a.toNat, by omega⟩
    by_cases h0 : Y + Y = 0
    · rw [giveV_8n (by simpa using h0)]
      exact ho_sqrt_no q_y z_y q_g z_g hv zv hne o0 zX hN1 hN hl hn (show k < l by omega) h0
    · rw [giveV_8 (by simpa using h0)]
      exact ho_sqrt q_y z_y q_g z_g hv zv hne o0 zX hN1 hN hl hn (show k < l by omega) h0
  · obtain ⟨g1, g2⟩ := fit_one (by decide) (by decide) (by decide) hfit
    obtain ⟨k, rfl⟩ : ∃ k : Nat, a = (k : Int) := ⟨a.toNat, by omega⟩
    rw [giveV_9]
    exact ho_exp q_y z_y q_g z_g hv zv hne o0 zX hN1 hN hl hn (show k < l by omega)
  · obtain ⟨g1, g2⟩ := fit_one (by decide) (by decide) (by decide) hfit
    obtain ⟨k, rfl⟩ : ∃ k : Nat, a = (k : Int) := ⟨a.toNat, by omega⟩
    by_cases h0 : v.getD k 0 = 0
    · rw [giveV_10n (by simpa using h0)]
      exact ho_log_no q_y z_y q_g z_g hv zv hne o0 zX hN1 hN hl hn (show k < l by omega) h0
    · rw [giveV_10 (by simpa using h0)]
      exact ho_log q_y z_y q_g z_g hv zv hne o0 zX hN1 hN hl hn (show k < l by omega) h0
  · exact (fit_no hno.2.1 hno.1 (arity_no hno) hfit).elim

end Go.Proofs.YtfhihapgjiaobaaGreat

namespace Go.Proofs.YtfhihapgjiaobaaGreat
set_option maxRecDepth 100000
open Go.RowKit
set_option linter.unusedVariables false
set_option linter.unusedSimpArgs false

def RetGive (x : PI) (Y G : Rat) (v : List Rat) (w : World) (e : Ending) (w' : World) : Prop :=
  if tden x Y v = 0 then RetGvNo w e w' else RetGv (decide (arity x.op = 2)) (G * dA x Y v) (G * dB x Y v) w e w'
theorem RetGv.as {two two' : Bool} {X X' Y Y' : Rat} {w w' : World} {e : Ending} (h : RetGv two X Y w e w') (hX : X = X') (hY : two' = true → two = true ∧ Y = Y') : RetGv two' X' Y' w e w' := by
  obtain ⟨s, A, n, c, D, m, d, s', A', n', c', D', m', d', he, q1, q2, hb⟩ := h
  exact ⟨s, A, n, c, D, m, d, s', A', n', c', D', m', d', he, hX ▸ q1, fun ht => (hY ht).2 ▸ q2 (hY ht).1, hb⟩
theorem RetGive.yes {two : Bool} {x : PI} {Y G X1 X2 : Rat} {v : List Rat} {w w' : World} {e : Ending} (h : RetGv two X1 X2 w e w') (h0 : ¬ tden x Y v = 0) (hX : X1 = G * dA x Y v) (hY : arity x.op = 2 → two = true ∧ X2 = G * dB x Y v) : RetGive x Y G v w e w' := by
  unfold RetGive
  rw [if_neg h0]
  exact h.as hX (fun ht => hY (of_decide_eq_true ht))
theorem RetGive.no {x : PI} {Y G : Rat} {v : List Rat} {w w' : World} {e : Ending} (h : RetGvNo w e w') (h0 : tden x Y v = 0) : RetGive x Y G v w e w' := by
  unfold RetGive
  rw [if_pos h0]
  exact h

theorem gv_value {w : World} {op a b : Int} {q : RQ} {v : List Rat} {Y G : Rat} {s_y : Bool} {A_y D_y : Option Addr} {n_y c_y m_y d_y : Nat} {s_va : Bool} {A_va D_va : Option Addr} {n_va c_va m_va d_va : Nat} {s_vb : Bool} {A_vb D_vb : Option Addr} {n_vb c_vb m_vb d_vb : Nat} {s_g : Bool} {A_g D_g : Option Addr} {n_g c_g m_g d_g : Nat} (q_y : Q w s_y A_y n_y c_y D_y m_y d_y Y) (z_y : Sz Y 64) (q_va : Q w s_va A_va n_va c_va D_va m_va d_va (v.getD a.toNat 0)) (q_vb : Q w s_vb A_vb n_vb c_vb D_vb m_vb d_vb (v.getD b.toNat 0)) (q_g : Q w s_g A_g n_g c_g D_g m_g d_g G) (z_g : Sz G 64) (zv : AllSz 64 v) (hA : 0 < arity op) :
    Calls Tryz.prog 44 #[.agg #[.int .i64 op, .int .i64 a, .int .i64 b, .bool q.s, .slice q.A q.n q.c, .slice q.A' q.n' q.c'], .agg #[.bool s_y, .slice A_y n_y c_y, .slice D_y m_y d_y], .agg #[.bool s_va, .slice A_va n_va c_va, .slice D_va m_va d_va, .bool s_vb, .slice A_vb n_vb c_vb, .slice D_vb m_vb d_vb], .agg #[.bool s_g, .slice A_g n_g c_g, .slice D_g m_g d_g]] w (RetGive ⟨op, a, b, (q.s, q.z, q.z')⟩ Y G v w) := by
  have z_va := getD_sz zv (by omega) a.toNat
  have z_vb := getD_sz zv (by omega) b.toNat
  have zq : ∀ D, Sz D 129 → Sz (G / D) 200 := fun D hD => by
    rw [Rat.div_def]
    exact ((z_g.mul hD.inv).mono (by omega))
  rcases op_cases op with (rfl | rfl | rfl | rfl | rfl | rfl | rfl | rfl | rfl | rfl) | hno
  · exact absurd hA (by decide)
  · exact absurd hA (by decide)
  · exact (gv_neg q_y z_y q_va z_va q_vb z_vb q_g z_g).mono fun e w' h => RetGive.yes h (by exact rat_one_ne) (by show _ = G * (-1); grind) (fun h2 => absurd (show arity 3 = 2 from h2) (by decide))
  · exact (gv_add q_y z_y q_va z_va q_vb z_vb q_g z_g).mono fun e w' h => RetGive.yes h (by exact rat_one_ne) (by show _ = G * 1; grind) (fun h2 => ⟨rfl, by show _ = G * 1; grind⟩)
  · exact (gv_sub q_y z_y q_va z_va q_vb z_vb q_g z_g).mono fun e w' h => RetGive.yes h (by exact rat_one_ne) (by show _ = G * 1; grind) (fun h2 => ⟨rfl, by show _ = G * (-1); grind⟩)
  · exact (gv_mul q_y z_y q_va z_va q_vb z_vb q_g z_g).mono fun e w' h => RetGive.yes h (by exact rat_one_ne) rfl (fun h2 => ⟨rfl, rfl⟩)
  · by_cases h0 : v.getD b.toNat 0 = 0
    · exact (gv_div_no q_y z_y q_va z_va q_vb z_vb q_g z_g h0).mono fun e w' h => RetGive.no h (by exact h0)
    · exact (gv_div q_y z_y q_va z_va q_vb z_vb q_g z_g h0 (zq _ (z_vb.mono (by omega)))).mono fun e w' h => RetGive.yes h (by exact h0) (by show _ = G * (v.getD b.toNat 0)⁻¹; rw [Rat.div_def]) (fun h2 => ⟨rfl, by show _ = G * (-(Y * (v.getD b.toNat 0)⁻¹)); rw [Rat.div_def]; grind⟩)
  · by_cases h0 : Y + Y = 0
    · exact (gv_sqrt_no q_y z_y q_va z_va q_vb z_vb q_g z_g h0).mono fun e w' h => RetGive.no h (by exact h0)
    · exact (gv_sqrt q_y z_y q_va z_va q_vb z_vb q_g z_g h0 (zq _ ((z_y.add z_y).mono (by omega)))).mono fun e w' h => RetGive.yes h (by exact h0) (by show _ = G * (Y + Y)⁻¹; rw [Rat.div_def]) (fun h2 => absurd (show arity 8 = 2 from h2) (by decide))
  · exact (gv_exp q_y z_y q_va z_va q_vb z_vb q_g z_g).mono fun e w' h => RetGive.yes h (by exact rat_one_ne) rfl (fun h2 => absurd (show arity 9 = 2 from h2) (by decide))
  · by_cases h0 : v.getD a.toNat 0 = 0
    · exact (gv_log_no q_y z_y q_va z_va q_vb z_vb q_g z_g h0).mono fun e w' h => RetGive.no h (by exact h0)
    · exact (gv_log q_y z_y q_va z_va q_vb z_vb q_g z_g h0 (zq _ (z_va.mono (by omega)))).mono fun e w' h => RetGive.yes h (by exact h0) (by show _ = G * (v.getD a.toNat 0)⁻¹; rw [Rat.div_def]) (fun h2 => absurd (show arity 10 = 2 from h2) (by decide))
  · rw [arity_no hno] at hA; omega

end Go.Proofs.YtfhihapgjiaobaaGreat

namespace Go.Proofs.YtfhihapgjiaobaaGreat
set_option maxRecDepth 100000
open Go.RowKit
set_option linter.unusedVariables false

theorem oper_round {P : Program} {o : Oper} {a : Act} {w : World} {K : Act → World → Prop} {Q : Exit → Act → World → Prop} (l n : Nat) (hd : ∀ c, o.op ≠ .defer c) (h : o.wp P a w K Q) : o.wpIn (Fence.wide.inRound l) n P a w K Q := by
  refine ⟨fun f _ => trivial, ?_⟩
  rw [Oper.semAt_eq _ _ _ hd]
  unfold Oper.wp at h
  generalize (execOp a.eval o).run P w = r at *
  cases r with
  | ok x w' =>
    cases x with
    | value v => exact h
    | skip => exact h
    | defer d => exact h
    | enter f args => exact ⟨fun h9 => (by cases h9), CallsIn.inRound l (callsIn_wide.2 h)⟩
    | row row args =>
      refine ⟨fun h9 => (by cases h9), fun c cs _ => ?_⟩
      obtain ⟨v, w2, r, s⟩ := h c cs
      exact ⟨v, w2, r, stepsIn_wide.2 s⟩
    | _ => exact h.elim
  | halt x w' => cases x <;> exact h
theorem ops_round {P : Program} {ops : Array Oper} {Q : Exit → Act → World → Prop} (l n : Nat) (hd : ∀ (i : Nat) (o : Oper) c, ops[i]? = some o → o.op ≠ .defer c) (hL : ¬ LetsOut Q) : ∀ (order : List Nat) (a : Act) (w : World), wpOps P ops Q order a w → wpOpsIn (Fence.wide.inRound l) n P ops Q order a w := by
  intro order
  induction order with
  | nil => intro a w h; exact h
  | cons i rest ih =>
    intro a w h
    unfold wpOps at h
    unfold wpOpsIn
    cases ho : ops[i]? with
    | none => rw [ho] at h; exact ih a w h
    | some o =>
      rw [ho] at h
      simp only at h ⊢
      split
      · rename_i hw
        rw [if_pos hw] at h
        rcases h with h | h
        · exact oper_round l n (fun c => hd i o c ho) (Oper.wp_mono (fun a w h => ih a w h) h)
        · exact absurd h.2 hL
      · rename_i hw
        rw [if_neg hw] at h
        exact ⟨fun f _ => trivial, ih _ _ h⟩
theorem region_round {P : Program} {ops : Array Oper} {Q : Exit → Act → World → Prop} {id l n : Nat} {a : Act} {w : World} (S : World → Prop) (hm : P.follows .mixedOrders = true) (hd : (ops.all fun o => match o.op with | .defer _ => false | _ => true) = true) (hL : ¬ LetsOut Q) (hS : S w.drew)
    (h : S w.drew → wpAnyH P .any ops Q S ops.size (Array.replicate ops.size false) a w.drew) : (Code.region id ops true).wpIn (Fence.wide.inRound l) n P Q a w :=
  wpIn_region_draw fun t => by
    have h2 := wpAny_sound ops.size t _ _ _ (wpAny_of_held _ _ _ _ (h hS))
    simp only [Region.schedule, hm, Bool.true_or, if_true]
    refine ops_round l n (fun i o c ho he => ?_) hL _ _ _ h2
    have h3 := Array.all_eq_true.1 hd i (Array.getElem?_eq_some_iff.1 ho).1
    rw [(Array.getElem?_eq_some_iff.1 ho).2, he] at h3
    cases h3

end Go.Proofs.YtfhihapgjiaobaaGreat

namespace Go.Proofs.YtfhihapgjiaobaaGreat
set_option maxRecDepth 100000
open Go.RowKit Go.Shelf
set_option linter.unusedVariables false
set_option linter.unusedSimpArgs false
attribute [local go_sem] Oper.semAt_some

def outB (n : Nat) (o : Int) : Bool := decide (0 ≤ o ∧ o < (n : Int))
noncomputable def bkRun (l : List PI) (v : List Rat) (outs : List Int) (cots : List Rat) (m : Nat) : Except (Nat × Int) (List Rat) :=
  if (outs.all (outB l.length)) = true then (match giveTo v l l.length (seedTo outs cots l.length outs.length, List.replicate m 0) with
    | .ok s => .ok s.2
    | .error e => .error e) else .error (0, 11)
noncomputable def bkAll (l : List PI) (p q r s : Bool) (ins forms : List Rat) (outs : List Int) (cots : List Rat) : Except (Nat × Int) (List Rat) :=
  if s = true ∧ r = true then (match exAll l p q ins forms with
    | .error e => .error e
    | .ok v => bkRun l v outs cots (inputsTo l l.length).toNat) else .error (0, 1)
theorem bkAll_no {l : List PI} {p q r s : Bool} {ins forms : List Rat} {outs : List Int} {cots : List Rat} (h : ¬ (s = true ∧ r = true)) : bkAll l p q r s ins forms outs cots = .error (0, 1) := by unfold bkAll; rw [if_neg h]
theorem bkAll_err {l : List PI} {p q : Bool} {ins forms : List Rat} {outs : List Int} {cots : List Rat} {e : Nat × Int} (h : exAll l p q ins forms = .error e) : bkAll l p q true true ins forms outs cots = .error e := by unfold bkAll; rw [if_pos ⟨rfl, rfl⟩, h]
theorem bkAll_ok {l : List PI} {p q : Bool} {ins forms v : List Rat} {outs : List Int} {cots : List Rat} (h : exAll l p q ins forms = .ok v) : bkAll l p q true true ins forms outs cots = bkRun l v outs cots (inputsTo l l.length).toNat := by unfold bkAll; rw [if_pos ⟨rfl, rfl⟩, h]
theorem bkRun_no {l : List PI} {v : List Rat} {outs : List Int} {cots : List Rat} {m : Nat} {o : Int} (ho : o ∈ outs) (h : outB l.length o = false) : bkRun l v outs cots m = .error (0, 11) := by
  unfold bkRun
  rw [if_neg]
  intro h2
  rw [List.all_eq_true] at h2
  rw [h2 o ho] at h
  cases h
theorem bkRun_err {l : List PI} {v : List Rat} {outs : List Int} {cots : List Rat} {m : Nat} {e : Nat × Int} (ho : outs.all (outB l.length) = true) (h : giveTo v l l.length (seedTo outs cots l.length outs.length, List.replicate m 0) = .error e) : bkRun l v outs cots m = .error e := by unfold bkRun; rw [if_pos ho, h]
theorem bkRun_ok {l : List PI} {v : List Rat} {outs : List Int} {cots : List Rat} {m : Nat} {s : List Rat × List Rat} (ho : outs.all (outB l.length) = true) (h : giveTo v l l.length (seedTo outs cots l.length outs.length, List.replicate m 0) = .ok s) : bkRun l v outs cots m = .ok s.2 := by unfold bkRun; rw [if_pos ho, h]
theorem boxesR (t1 t2 t3 : TypeId) (w : World) (v1 v2 v3 : Array Value) : ∃ W, ((w.alloc (.cells v1 t1)).alloc (.cells v2 t2)).alloc (.cells v3 t3) = W ∧ Box t1 W w.heap.size v1 ∧ Box t2 W (w.heap.size + 1) v2 ∧ Box t3 W (w.heap.size + 1 + 1) v3 ∧ Below w.heap.size w W ∧ W.heap.size = w.heap.size + 1 + 1 + 1 := by
  have e2 : (w.alloc (.cells v1 t1)).heap.size = w.heap.size + 1 := by simp
  have e3 : ((w.alloc (.cells v1 t1)).alloc (.cells v2 t2)).heap.size = w.heap.size + 1 + 1 := by simp
  refine ⟨_, rfl, ((Box.new w t1 v1).alloc _).alloc _, ?_, ?_, ?_, by simp⟩
  · rw [← e2]; exact (Box.new _ t2 v2).alloc _
  · rw [← e3]; exact Box.new _ t3 v3
  · exact ((below_alloc _ _).alloc (by simp) _).alloc (by simp; omega) _
/-- the three cells of the results are written -/
def putR (w : World) (g1 g2 g3 : Nat) (x1 x2 x3 : Value) : World := ((w.setCell ⟨g1, 0, none⟩ x1).setCell ⟨g2, 0, none⟩ x2).setCell ⟨g3, 0, none⟩ x3
theorem Box.set1 {t : TypeId} {w : World} {g : Nat} {v : Value} (h : Box t w g #[v]) (x : Value) : Box t (w.setCell ⟨g, 0, none⟩ x) g #[x] := by
  unfold Box at *
  unfold World.setCell
  simp [Array.getElem?_modify, h]
theorem Box.setO {t : TypeId} {w : World} {g g' : Nat} {vs : Array Value} (h : Box t w g vs) (hne : g ≠ g') (i : Nat) (x : Value) : Box t (w.setCell ⟨g', i, none⟩ x) g vs := (((Keep.refl g' w).setCell i x).block g h.lt hne).trans h
theorem putR_boxes {t1 t2 t3 : TypeId} {w : World} {g1 g2 g3 : Nat} {y1 y2 y3 : Value} (h1 : Box t1 w g1 #[y1]) (h2 : Box t2 w g2 #[y2]) (h3 : Box t3 w g3 #[y3]) (n12 : g1 ≠ g2) (n13 : g1 ≠ g3) (n23 : g2 ≠ g3) (x1 x2 x3 : Value) :
    Box t1 (putR w g1 g2 g3 x1 x2 x3) g1 #[x1] ∧ Box t2 (putR w g1 g2 g3 x1 x2 x3) g2 #[x2] ∧ Box t3 (putR w g1 g2 g3 x1 x2 x3) g3 #[x3] :=
  ⟨((h1.set1 x1).setO n12 0 x2).setO n13 0 x3, ((h2.setO n12.symm 0 x1).set1 x2).setO n23 0 x3, ((h3.setO n13.symm 0 x1).setO n23.symm 0 x2).set1 x3⟩
theorem below_putR {B g1 g2 g3 : Nat} {a w : World} (h : Below B a w) (h1 : B ≤ g1) (h2 : B ≤ g2) (h3 : B ≤ g3) (x1 x2 x3 : Value) : Below B a (putR w g1 g2 g3 x1 x2 x3) := ((h.setCell (p := ⟨g1, 0, none⟩) h1 x1).setCell (p := ⟨g2, 0, none⟩) h2 x2).setCell (p := ⟨g3, 0, none⟩) h3 x3
/-- what is returned is read off the three cells -/
theorem back_ret {tmps : Array Value} {W : World} {g1 g2 g3 : Nat} {v1 v2 v3 : Value} {t1 t2 t3 : TypeId} (e1 : tmps.getD 10 undef = .pointer (some ⟨g1, 0, none⟩)) (e2 : tmps.getD 11 undef = .pointer (some ⟨g2, 0, none⟩)) (e3 : tmps.getD 12 undef = .pointer (some ⟨g3, 0, none⟩)) (h1 : Box t1 W g1 #[v1]) (h2 : Box t2 W g2 #[v2]) (h3 : Box t3 W g3 #[v3]) :
    (results Tryz.f13 tmps).run Tryz.prog W = .ok (.tuple #[v1, v2, v3]) W := by
  have c1 := h1.cell 0
  have c2 := h2.cell 0
  have c3 := h3.cell 0
  simp at e1 e2 e3 c1 c2 c3
  simp [results, Tryz.results13, go_sem, e1, e2, e3, c1, c2, c3]
theorem Box.one {t : TypeId} {w : World} {g : Nat} {v : Value} (h : Box t w g #[v]) : w.cell? ⟨g, 0, none⟩ = some v ∧ w.frozen? ⟨g, 0, none⟩ = false := ⟨h.cell 0, h.free 0⟩

/-- the instructions of a list give on, one after another -/
def giveL (v : List Rat) (l : List PI) : List Nat → List Rat × List Rat → Except (Nat × Int) (List Rat × List Rat)
  | [], s => .ok s
  | i :: is, s => match giveSt v i (l.getD i PI.nil) s with
    | .error e => .error (i, e)
    | .ok s' => giveL v l is s'
theorem giveL_append {v : List Rat} {l : List PI} : ∀ {js is : List Nat} {s s' : List Rat × List Rat}, giveL v l js s = .ok s' → giveL v l (js ++ is) s = giveL v l is s' := by
  intro js
  induction js with
  | nil => intro is s s' h; injection h with h; rw [h]; rfl
  | cons j js ih =>
    intro is s s' h
    show (match giveSt v j (l.getD j PI.nil) s with | .error e => _ | .ok s' => giveL v l (js ++ is) s') = _
    unfold giveL at h
    cases hg : giveSt v j (l.getD j PI.nil) s with
    | error e => rw [hg] at h; cases h
    | ok s1 =>
      rw [hg] at h
      exact ih h
theorem giveL_step {v : List Rat} {l : List PI} {js : List Nat} {i : Nat} {s s1 s2 : List Rat × List Rat} (h : giveL v l js s = .ok s1) (hg : giveSt v i (l.getD i PI.nil) s1 = .ok s2) : giveL v l (js ++ [i]) s = .ok s2 := by
  rw [giveL_append h]
  unfold giveL
  rw [hg]; rfl
theorem giveL_stop {v : List Rat} {l : List PI} {js : List Nat} {i : Nat} {s s1 : List Rat × List Rat} {e : Int} (h : giveL v l js s = .ok s1) (hg : giveSt v i (l.getD i PI.nil) s1 = .error e) : giveL v l (js ++ [i]) s = .error (i, e) := by
  rw [giveL_append h]
  unfold giveL
  rw [hg]
theorem giveL_err {v : List Rat} {l : List PI} : ∀ {js is : List Nat} {s : List Rat × List Rat} {e : Nat × Int}, giveL v l js s = .error e → giveL v l (js ++ is) s = .error e := by
  intro js
  induction js with
  | nil => intro is s e h; cases h
  | cons j js ih =>
    intro is s e h
    show (match giveSt v j (l.getD j PI.nil) s with | .error e => _ | .ok s' => giveL v l (js ++ is) s') = _
    unfold giveL at h
    cases hg : giveSt v j (l.getD j PI.nil) s with
    | error e1 => rw [hg] at h; exact h
    | ok s1 => rw [hg] at h; exact ih h
theorem giveL_all (v : List Rat) (l : List PI) : ∀ (n : Nat) (s : List Rat × List Rat), giveL v l (List.range n).reverse s = giveTo v l n s := by
  intro n
  induction n with
  | zero => intro s; rfl
  | succ n ih =>
    intro s
    rw [List.range_succ, List.reverse_append]
    show (match giveSt v n (l.getD n PI.nil) s with | .error e => _ | .ok s' => giveL v l (List.range n).reverse s') = _
    cases hg : giveSt v n (l.getD n PI.nil) s with
    | error e => rw [giveTo_err hg]
    | ok s1 => rw [giveTo_ok hg]; exact ih s1
theorem giveL_first {v : List Rat} {l : List PI} {n k : Nat} {s : List Rat × List Rat} {e : Nat × Int} (h : giveL v l ((List.range n).reverse.take k) s = .error e) : giveTo v l n s = .error e := by
  rw [← giveL_all, ← List.take_append_drop k (List.range n).reverse]
  exact giveL_err h
/-- a block that is no row of cells holds no word -/
theorem noW_other {W : World} {r : Nat} {o : Obj} (h : W.heap[r]? = some o) (hc : o.isCells = false) : NoWAt W r := by
  intro i x hx
  unfold World.cell? at hx
  rw [h] at hx
  cases o <;> simp [Obj.isCells] at hc hx
theorem OwnQ.other {B : Nat} {w w' : World} {g n cap : Nat} {Xs : List Rat} {row : Option Nat} (h : OwnQ B w (.slice (some ⟨g, 0, none⟩) n cap) Xs) (hg : w.grownBy w' row) (hr : ∀ r, row = some r → ∃ o : Obj, w.heap[r]? = some o ∧ o.isCells = false) : OwnQ B w' (.slice (some ⟨g, 0, none⟩) n cap) Xs := by
  obtain ⟨xs, h1, h2, h3⟩ := h
  have hn : ∀ r, row = some r → NoWAt w r := fun r e => by obtain ⟨o, e1, e2⟩ := hr r e; exact noW_other e1 e2
  refine ⟨xs, ⟨h1.1, ?_⟩, h2, fun j x hx => ⟨RQ.grownC (h3 j x hx).1 hg hn, Q.grownC (h3 j x hx).2 hg hn⟩⟩
  rcases h1.2 with h4 | ⟨g1, cap', cur, e, h5, h6, h7⟩
  · exact .inl h4
  · have hlt : g1 < w.heap.size := by
      rcases Nat.lt_or_ge g1 w.heap.size with h9 | h9
      · exact h9
      · rw [Array.getElem?_eq_none h9] at h6; cases h6
    refine .inr ⟨g1, cap', cur, e, h5, (hg.block g1 hlt (fun e9 => ?_)).trans h6, h7⟩
    obtain ⟨o, e1, e2⟩ := hr g1 e9.symm
    rw [h6] at e1
    injection e1 with e1
    rw [← e1] at e2
    cases e2
theorem KY.other {B ga gr : Nat} {V w w' : World} {row : Option Nat} (h : KY B ga gr V w) (hg : w.grownBy w' row) (hr : ∀ r, row = some r → B ≤ r) (hB : B ≤ w.heap.size) : KY B ga gr V w' :=
  ⟨Nat.le_trans h.1 hg.size, fun b h1 h2 h3 => (hg.block b (by omega) (fun e => by have := hr b e.symm; omega)).trans (h.2 b h1 h2 h3)⟩
theorem KY.of_keep1 {B ga gr : Nat} {w w' : World} (k : Keep ga w w') (hB : B ≤ w.heap.size) : KY B ga gr w w' := ⟨k.size, fun b h1 h2 _ => k.block b (by omega) h2⟩
theorem KY.of_keep2 {B ga gr : Nat} {w w' : World} (k : Keep gr w w') (hB : B ≤ w.heap.size) : KY B ga gr w w' := ⟨k.size, fun b h1 _ h3 => k.block b (by omega) h3⟩
theorem KY.of_below {B ga gr : Nat} {w w' : World} (k : Below w.heap.size w w') (hB : B ≤ w.heap.size) : KY B ga gr w w' := ⟨k.size, fun b h1 _ _ => k.block b (by omega)⟩
theorem KY.box {B ga gr g : Nat} {t : TypeId} {w w' : World} {vs : Array Value} (k : KY B ga gr w w') (h : Box t w g vs) (h1 : g < B) (h2 : g ≠ ga) (h3 : g ≠ gr) : Box t w' g vs := (k.2 g h1 h2 h3).trans h
/-- whatever is no row of cells stays -/
theorem keepsFrom_keep {B g : Nat} {w w' : World} {t : TypeId} {cs : Array Value} {fr : Nat × Nat} (k : Keep g w w') (hg : w.heap[g]? = some (.cells cs t fr)) : KeepsFrom B w w' :=
  ⟨k.size, fun i o hi h1 h2 => by
    by_cases e : i = g
    · subst e; rw [hg] at h1; injection h1 with h1; rw [← h1] at h2; cases h2
    · exact (k.block i (Array.getElem?_eq_some_iff.1 h1).1 e).trans h1⟩
theorem keepsFrom_below {B : Nat} {w w' : World} (k : Below w.heap.size w w') : KeepsFrom B w w' := ⟨k.size, fun i o hi h1 h2 => (k.block i (Array.getElem?_eq_some_iff.1 h1).1).trans h1⟩
theorem keepsFrom_set {B g i : Nat} {w : World} {v : Value} {t : TypeId} {cs : Array Value} {fr : Nat × Nat} (hg : w.heap[g]? = some (.cells cs t fr)) : KeepsFrom B w (w.setCell ⟨g, i, none⟩ v) := keepsFrom_keep ((Keep.refl g w).setCell i v) hg
theorem OwnQ.cells {B : Nat} {w : World} {g n cap : Nat} {Xs : List Rat} (h : OwnQ B w (.slice (some ⟨g, 0, none⟩) n cap) Xs) : ∃ cs, w.heap[g]? = some (.cells cs 45 (0, 0)) := by
  obtain ⟨xs, h1, _⟩ := h
  rcases h1.2 with ⟨e, _⟩ | ⟨g1, cap', cur, e, _, h6, _⟩
  · injection e with e; cases e
  · injection e with e1
    injection e1 with e1
    injection e1 with e1
    subst e1
    exact ⟨cur, h6⟩
theorem heap_putR {w : World} {g1 g2 g3 D : Nat} {x1 x2 x3 : Value} (h1 : D ≠ g1) (h2 : D ≠ g2) (h3 : D ≠ g3) : (putR w g1 g2 g3 x1 x2 x3).heap[D]? = w.heap[D]? := by
  unfold putR World.setCell
  simp only [Array.getElem?_modify]
  rw [if_neg (fun e => h3 e.symm), if_neg (fun e => h2 e.symm), if_neg (fun e => h1 e.symm)]
theorem noW_box1 {t : TypeId} {w : World} {g : Nat} {v : Value} (h : Box t w g #[v]) (hv : NoW v) : NoWAt w g := by
  intro i x hx
  rw [h.cell i] at hx
  match i, hx with
  | 0, hx => exact hv x (by simpa using hx)
  | i + 1, hx => simp at hx
theorem keepsFrom_putR {t1 t2 t3 : TypeId} {B : Nat} {w : World} {g1 g2 g3 : Nat} {y1 y2 y3 : Value} (h1 : Box t1 w g1 #[y1]) (h2 : Box t2 w g2 #[y2]) (h3 : Box t3 w g3 #[y3]) (n12 : g1 ≠ g2) (n13 : g1 ≠ g3) (n23 : g2 ≠ g3) (x1 x2 x3 : Value) : KeepsFrom B w (putR w g1 g2 g3 x1 x2 x3) :=
  ((keepsFrom_set h1).trans (keepsFrom_set (h2.setO n12.symm 0 x1))).trans (keepsFrom_set ((h3.setO n13.symm 0 x1).setO n23.symm 0 x2))
/-- a row elsewhere, behind the results' cells -/
theorem OwnQ.putR {t1 t2 t3 : TypeId} {B : Nat} {w : World} {g n cap g1 g2 g3 : Nat} {Xs : List Rat} {y1 y2 y3 : Value} (h : OwnQ B w (.slice (some ⟨g, 0, none⟩) n cap) Xs) (h1 : Box t1 w g1 #[y1]) (h2 : Box t2 w g2 #[y2]) (h3 : Box t3 w g3 #[y3]) (v1 : NoW y1) (v2 : NoW y2) (v3 : NoW y3) (n12 : g1 ≠ g2) (n13 : g1 ≠ g3) (n23 : g2 ≠ g3) (m1 : g ≠ g1) (m2 : g ≠ g2) (m3 : g ≠ g3) (x1 x2 x3 : Value) :
    OwnQ B (putR w g1 g2 g3 x1 x2 x3) (.slice (some ⟨g, 0, none⟩) n cap) Xs := by
  have a1 := h.keepG (noW_box1 h1 v1) ((Keep.refl g1 w).setCell 0 x1) m1
  have c2 := h2.setO n12.symm 0 x1
  have a2 := a1.keepG (noW_box1 c2 v2) ((Keep.refl g2 _).setCell 0 x2) m2
  have c3 := (h3.setO n13.symm 0 x1).setO n23.symm 0 x2
  exact a2.keepG (noW_box1 c3 v3) ((Keep.refl g3 _).setCell 0 x3) m3
theorem giveV_sz {x : PI} {G Y : Rat} {v us u : List Rat} {N : Nat} (h : giveV x G Y v us = .ok u) (hz : AllSz N us) (hN : 0 < N) (zG : Sz G 64) (zY : Sz Y 64) (zv : AllSz 64 v) : AllSz (N + 520) u := by
  have a1 : Sz (G * dA x Y v) 257 := (zG.mul (dA_sz zY zv)).mono (by omega)
  have a2 : Sz (G * dB x Y v) 257 := zG.mul (dB_sz zY zv)
  have b1 := addAt_sz (i := x.a.toNat) hz hN a1
  have b2 := addAt_sz (i := x.b.toNat) b1 (by omega) a2
  unfold giveV at h
  split at h
  · injection h with h
    subst h
    exact fun Z hZ => (hz Z hZ).mono (by omega)
  · split at h
    · cases h
    · injection h with h
      subst h
      split
      · exact fun Z hZ => (b2 Z hZ).mono (by omega)
      · exact fun Z hZ => (b1 Z hZ).mono (by omega)
/-- between two rounds -/
def BkI (w V : World) (ga gr n m : Nat) (v : List Rat) (l : List PI) (s0 : List Rat × List Rat) (Ba Br : Nat) (pre : List { i : Nat // i < n }) (W : World) : Prop :=
  ∃ us rs : List Rat, OwnQ Ba W (.slice (some ⟨ga, 0, none⟩) n n) us ∧ OwnQ Br W (.slice (some ⟨gr, 0, none⟩) m m) rs ∧ giveL v l (pre.map Subtype.val) s0 = .ok (us, rs) ∧ AllSz (1300 + 520 * pre.length) us ∧ AllSz (10 + 70 * pre.length) rs ∧ KY V.heap.size ga gr V W ∧ Below w.heap.size w W
/-- where a round has returned -/
def BkX (w : World) (n : Nat) (v : List Rat) (l : List PI) (s0 : List Rat × List Rat) (c : Code) (pre : List { i : Nat // i < n }) (W : World) : Prop :=
  c = .ret ∧ ∃ (i : Nat) (e : Int), giveL v l (pre.map Subtype.val) s0 = .error (i, e) ∧ Box 23 W w.heap.size #[.slice none 0 0] ∧ Box 3 W (w.heap.size + 1) #[.int .i64 (i : Int)] ∧ Box 28 W (w.heap.size + 1 + 1) #[.int .i64 e] ∧ Below w.heap.size w W

end Go.Proofs.YtfhihapgjiaobaaGreat

namespace Go.Proofs.YtfhihapgjiaobaaGreat
set_option maxRecDepth 100000
open Go.RowKit
set_option linter.unusedVariables false
set_option linter.unusedSimpArgs false

def AllDz (K : Nat) (v : List Rat) : Prop := ∀ j, Dz (v.getD j 0) K
theorem dz_zero (K : Nat) : Dz 0 K := ⟨1, rfl, by show (0 : Rat).den ∣ _; exact Nat.one_dvd _⟩
theorem AllDz.zeros (m K : Nat) : AllDz K (List.replicate m (0 : Rat)) := fun j => by
  rw [List.getD_eq_getElem?_getD, List.getElem?_replicate]
  split <;> exact dz_zero K
theorem AllDz.addAt {K : Nat} {v : List Rat} {i : Nat} {X : Rat} (h : AllDz K v) (hX : Dz X K) : AllDz K (addAt v i X) := fun j => by
  unfold Go.Proofs.YtfhihapgjiaobaaGreat.addAt
  rw [List.getD_eq_getElem?_getD, List.getElem?_set]
  split
  · split
    · exact (h i).add hX
    · exact dz_zero K
  · rw [← List.getD_eq_getElem?_getD]; exact h j
theorem AllSz.addAt {N M : Nat} {v : List Rat} {i : Nat} {X : Rat} (h : AllSz N v) (hN : 0 < N) (hX : Sz X M) : AllSz (N + M + 1) (addAt v i X) := by
  intro Y hY
  unfold Go.Proofs.YtfhihapgjiaobaaGreat.addAt at hY
  obtain ⟨j, hj⟩ := List.mem_iff_getElem?.1 hY
  rw [List.getElem?_set] at hj
  split at hj
  · split at hj
    · injection hj with hj
      rw [← hj]
      exact (getD_sz h hN i).add hX
    · cases hj
  · exact (h Y (List.mem_of_getElem? hj)).mono (by omega)
theorem AllSz.zeros (m N : Nat) (hN : 0 < N) : AllSz N (List.replicate m (0 : Rat)) := fun X hX => by
  rw [List.eq_of_mem_replicate hX]
  exact sz_zero N hN
/-- the row of adjoints: its length, sizes, powers of two -/
structure Fine (n N : Nat) (v : List Rat) : Prop where
  len : v.length = n
  sz : AllSz N v
  dz : AllDz 16448 v
theorem Fine.add {n N M : Nat} {v : List Rat} {i : Nat} {X : Rat} (h : Fine n N v) (hN : 0 < N) (hX : Sz X M) (hM : M ≤ 257) : Fine n (N + 258) (addAt v i X) :=
  ⟨(addAt_len _ _ _).trans h.len, fun Y hY => (h.sz.addAt hN (hX.mono hM) Y hY).mono (by omega), h.dz.addAt ((hX.mono hM).dz (by omega))⟩
theorem Fine.mono {n N M : Nat} {v : List Rat} (h : Fine n N v) (hm : N ≤ M) : Fine n M v := ⟨h.len, fun Y hY => (h.sz Y hY).mono hm, h.dz⟩
theorem Fine.zeros (n N : Nat) (hN : 0 < N) : Fine n N (List.replicate n 0) := ⟨List.length_replicate .., AllSz.zeros n N hN, AllDz.zeros n _⟩
/-- the premise of the document's Add -/
theorem Fine.tz {n N M : Nat} {v : List Rat} {X : Rat} (h : Fine n N v) (i : Nat) (hX : Sz X M) (hM : M ≤ 257) : tz ((v.getD i 0).den * X.den) ≤ 65536 := (h.dz i).both ((hX.mono hM).dz (by omega)) (by omega)
theorem fine_seed {outs : List Int} {cs : List Rat} (n : Nat) (hz : AllSz 8 cs) : ∀ k, Fine n (10 + 10 * k) (seedTo outs cs n k) := by
  intro k
  induction k with
  | zero => exact Fine.zeros n _ (by omega)
  | succ k ih =>
    have z := getD_sz hz (by omega) k
    exact ⟨(addAt_len _ _ _).trans ih.len, fun Y hY => (ih.sz.addAt (by omega) z Y hY).mono (by omega), ih.dz.addAt (z.dz (by omega))⟩
theorem cell_put3o {w : World} {g o b i : Nat} {x0 x1 x2 : Value} (hne : b ≠ g) (hlt : b < w.heap.size) : (put3o w g o x0 x1 x2).cell? ⟨b, i, none⟩ = w.cell? ⟨b, i, none⟩ := keep_cell (keep_put3o w g o x0 x1 x2) hlt hne
theorem OwnQ.none_any {B B' : Nat} {w w' : World} {n c : Nat} {Xs : List Rat} (h : OwnQ B w (.slice none n c) Xs) : OwnQ B' w' (.slice none n c) Xs := by
  obtain ⟨xs, ⟨h0, h1⟩, h2, h3⟩ := h
  rcases h1 with ⟨e, rfl⟩ | ⟨g', cap, cur, e, _⟩
  · exact ⟨[], ⟨h0, .inl ⟨e, rfl⟩⟩, h2, fun j x hx => by simp at hx⟩
  · injection e with e1 e2 e3; cases e1
theorem OwnQ.some_ {B : Nat} {w : World} {A : Option Addr} {n c : Nat} {Xs : List Rat} (h : OwnQ B w (.slice A n c) Xs) : A = none ∨ ∃ g, A = some ⟨g, 0, none⟩ := by
  obtain ⟨xs, ⟨h0, h1⟩, h2, h3⟩ := h
  rcases h1 with ⟨e, rfl⟩ | ⟨g', cap, cur, e, _⟩
  · injection e with e1 e2 e3; exact .inl e1
  · injection e with e1 e2 e3; exact .inr ⟨g', e1⟩
theorem OwnQ.made {B : Nat} {w : World} {A : Option Addr} {n c : Nat} {Xs : List Rat} (h : OwnQ B w (.slice A n c) Xs) {i : Nat} (hi : i < n) : ∃ g, A = some ⟨g, 0, none⟩ := by
  rcases h.some_ with rfl | h9
  · obtain ⟨A', c', e⟩ := h.form
    have hl := h.slq.len
    obtain ⟨xs, ⟨h0, h1⟩, h2, h3⟩ := h
    rcases h1 with ⟨e, rfl⟩ | ⟨g', cap, cur, e, _⟩
    · have h9 : (0 : Nat) = Xs.length := h2
      omega
    · injection e with e1 e2 e3; cases e1
  · exact h9
/-- a row stays where another one is stored into -/
theorem OwnQ.beside {B : Nat} {w w' : World} {A : Option Addr} {n c g : Nat} {Xs : List Rat} (h : OwnQ B w (.slice A n c) Xs) (hn : NoWAt w g) (k : Keep g w w') (hne : A ≠ some ⟨g, 0, none⟩) : OwnQ B w' (.slice A n c) Xs := by
  rcases h.some_ with rfl | ⟨g2, rfl⟩
  · exact h.none_any
  · exact h.keepG hn k (fun e => hne (by rw [e]))
/-- both rows: the adjoints, what the inputs have; what lay there at first is as it was -/
structure Rows2 (w0 : World) (A : Option Addr) (n c : Nat) (D : Option Addr) (m d : Nat) (has ins : List Rat) (w : World) : Prop where
  h : OwnQ w0.heap.size w (.slice A n c) has
  i : OwnQ w0.heap.size w (.slice D m d) ins
  ne : ∀ g, A = some ⟨g, 0, none⟩ → D ≠ some ⟨g, 0, none⟩
  b : Below w0.heap.size w0 w
section
variable {w0 w w' : World} {A D : Option Addr} {n c m d g : Nat} {has ins : List Rat}
theorem Rows2.below (r : Rows2 w0 A n c D m d has ins w) (hb : Below w.heap.size w w') : Rows2 w0 A n c D m d has ins w' := ⟨r.h.below hb, r.i.below hb, r.ne, bb r.b hb⟩
theorem Rows2.puth {i N : Nat} {s : Bool} {A1 A2 : Option Addr} {n1 c1 n2 c2 : Nat} {X : Rat} (r : Rows2 w0 (some ⟨g, 0, none⟩) n c D m d has ins w) (hi : i < n) (q : Q w s A1 n1 c1 A2 n2 c2 X) (hX : Sz X N) (hN : N ≤ 1000000) :
    Rows2 w0 (some ⟨g, 0, none⟩) n c D m d (has.set i X) ins (put3o w g (i * 3) (.bool s) (.slice A1 n1 c1) (.slice A2 n2 c2)) :=
  ⟨r.h.putQ hi q hX hN, r.i.beside r.h.noW (keep_put3o _ _ _ _ _ _) (r.ne g rfl), r.ne, Below.keep r.b (keep_put3o _ _ _ _ _ _) r.h.lt.2.1 (Nat.le_refl _)⟩
theorem Rows2.puti {i N : Nat} {s : Bool} {A1 A2 : Option Addr} {n1 c1 n2 c2 : Nat} {X : Rat} (r : Rows2 w0 A n c (some ⟨g, 0, none⟩) m d has ins w) (hi : i < m) (q : Q w s A1 n1 c1 A2 n2 c2 X) (hX : Sz X N) (hN : N ≤ 1000000) :
    Rows2 w0 A n c (some ⟨g, 0, none⟩) m d has (ins.set i X) (put3o w g (i * 3) (.bool s) (.slice A1 n1 c1) (.slice A2 n2 c2)) :=
  ⟨r.h.beside r.i.noW (keep_put3o _ _ _ _ _ _) (fun e => r.ne g e rfl), r.i.putQ hi q hX hN, r.ne, Below.keep r.b (keep_put3o _ _ _ _ _ _) r.i.lt.2.1 (Nat.le_refl _)⟩
end

end Go.Proofs.YtfhihapgjiaobaaGreat
