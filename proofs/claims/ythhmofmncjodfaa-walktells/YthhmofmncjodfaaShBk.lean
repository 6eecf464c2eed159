/-
  The iterator of slices.Backward over a slice of ints: it hands out the last one first, each with its number. Conditions: the slice reads as a list; the rounds keep the slice's own block and the iterator's box.
-/
import Derived.RangeFuncNested
import Derived.RangeFuncBound
import Derived.RangeFuncCalls
import Derived.RangeFuncLeaves
import Derived.Shelf.Abstract
import Derived.Shelf.RegionOpen
import Derived.WalkKit
import Derived.OwnWalkIn
import Derived.TacticsInMore
import Derived.LoopNIn
import Derived.LoopIn
import Derived.Test.YthhmofmncjodfaaShA
import Derived.Test.YthhmofmncjodfaaMemZ
namespace Go.Proofs.Ythhmofmncjodfaa
open Go.RowKit Go.Shelf
set_option linter.unusedVariables false
set_option linter.unusedSimpArgs false
attribute [local go_sem] Oper.semAt_some

set_option maxRecDepth 100000 in
set_option maxHeartbeats 2000000 in
theorem zbk1 (n : Nat) (hn : 1 ≤ n) (l Bs : Nat) (X : Nat → Prop) (A : Option Addr) (len cap : Nat) (xs : List Int) (hX : ¬ X Bs) (hXA : 0 < len → ∀ b off, A = some ⟨b, off, none⟩ → ¬ X b) (J Jx : List { i : Nat // i < len } → World → Prop)
    (hY : ∀ pre x W, J pre W → pre.length < len → YieldAt Fence.wide (n - 1) Try.prog l #[.int .i64 (x.1 : Int), .int .i64 (xs.getD x.1 0)] W fun e W' =>
      (e = .returned (.bool true) ∧ J (pre ++ [x]) W' ∧ KC X W W') ∨ (e = .returned (.bool false) ∧ Jx (pre ++ [x]) W'))
    (W : World) (hBc : W.cell? ⟨Bs, 0, none⟩ = some (.slice A len cap)) (hs : SlZ W A len cap xs)
    (h0 : J [] W) :
    CallsIn Fence.wide n Try.prog 48 #[.func (.yield l) #[] #[], .pointer (some ⟨Bs, 0, none⟩)] W fun e W' => (∃ v, e = .returned v) ∧
      ((∃ ys, ys.map Subtype.val = (List.range len).reverse ∧ J ys W') ∨ (∃ pre, True ∧ Jx pre W')) := by
  have hlen := hs.small
  refine callsIn_of_wp Try.func48 rfl trivial ?_ rfl
  simp only [Try.ntmps48, List.size_toArray, List.length_cons, List.length_nil, Nat.reduceAdd, Nat.reduceSub, Array.replicate_succ, Array.replicate_zero, List.push_toArray, List.append_toArray, List.nil_append, List.cons_append]
  gi_wp2
  gi_loopw [3] (fun i wr => ∃ (k : Nat) (z : Int) (ys : List { i : Nat // i < len }), k ≤ len ∧ z = (len : Int) - 1 - k ∧ i = .int .i64 z ∧ ys.map Subtype.val = (List.range len).reverse.take k ∧ J ys wr ∧ KC X W wr)
    (fun i _ => (intOf i + 1).toNat)
  case atStart => exact ⟨0, (len : Int) - 1, [], by omega, by omega, by go_num, by simp, h0, KC.refl _ _⟩
  case round =>
    obtain ⟨k, z, ys, hk, hz, rfl, hys, hJs, hkx⟩ := hrel
    have hBr : wr.cell? ⟨Bs, 0, none⟩ = some (.slice A len cap) := hkx.cell hX hBc
    have hyl : ys.length = k := by
      have : (ys.map Subtype.val).length = k := by rw [hys]; simp; omega
      simpa using this
    by_cases hlt : k < len
    · obtain ⟨t, ht⟩ : ∃ t : Nat, t = len - 1 - k := ⟨_, rfl⟩
      have htl : t < len := by omega
      have hzt : z = (t : Int) := by omega
      obtain ⟨fn, tmps, assign, body, hy, hR⟩ := hY ys ⟨t, htl⟩ wr hJs (by omega)
      obtain ⟨b, off, x, hx, rfl, hb1, hi, c0⟩ := (hs.kc hkx hXA).get htl
      have hys2 : (ys ++ [(⟨t, htl⟩ : { i : Nat // i < len })]).map Subtype.val = (List.range len).reverse.take (k + 1) := by rw [rev_take hlt, List.map_append, hys, ← ht]; rfl
      dsimp only at hy
      rw [hx] at hy
      subst hzt
      have HR := Lib.hid hR
      have HZ := Lib.hid hz
      have HYS := Lib.hid hys2
      clear hys hys2 hR hY ht hz hx hs
      gi_wp2
      refine HR.out.mono ?_
      rintro e W3 (⟨rfl, hJ3, hk3⟩ | ⟨rfl, hJx3⟩)
      · gi_wp2
        go_roundw
        case rel => exact ⟨k + 1, (t : Int) - 1, _, by omega, by have := HZ.out; omega, by go_num, HYS.out, hJ3, hkx.trans hk3⟩
        case measure => simp [intOf]
      · gi_wp2
        refine bodyPost_ret (results_none rfl _ _ _) rfl ?_
        exact ⟨⟨_, rfl⟩, .inr ⟨_, trivial, hJx3⟩⟩
    · obtain rfl : k = len := by omega
      have hz1 : z = -1 := by omega
      subst hz1
      rw [List.take_of_length_le (by simp)] at hys
      clear hs hY hyl
      gi_wp2
      go_end0
      exact ⟨⟨_, rfl⟩, .inl ⟨ys, hys, hJs⟩⟩

set_option maxHeartbeats 1000000 in
theorem zbk0 (n : Nat) (a : Option Addr) (len cap : Nat) (w : World) :
    CallsIn Fence.wide n Try.prog 40 #[.slice a len cap] w fun e w' => e = .returned (.func (.func 48) #[] #[.pointer (some ⟨w.heap.size, 0, none⟩)]) ∧ w' = w.alloc (.cells #[.slice a len cap] 22) := by
  refine callsIn_of_wp Try.func40 rfl trivial ?_ rfl
  simp only [Try.ntmps40, List.size_toArray, List.length_cons, List.length_nil, Nat.reduceAdd, Nat.reduceSub, Array.replicate_succ, Array.replicate_zero, List.push_toArray, List.append_toArray, List.nil_append, List.cons_append]
  gi_wp2
  go_ret
  exact ⟨rfl, rfl⟩

end Go.Proofs.Ythhmofmncjodfaa
