/-
  What the document's needs and Needs (gradineref15) return: marking by going down. Conditions: the slices read as at most 65536 instructions and ints; the operands lie ahead.
-/
import Derived.Test.YtibgpeaplmcogaaGreatDoorLnTyAllM
import Derived.Test.YtibgpeaplmcogaaGreatDoorNatReadAllM
import Derived.Test.YtibgpeaplmcogaaGreatDoorLnMemAllM
import Derived.Test.YtibgpeaplmcogaaGreatDoorQuotMathAllM
import Derived.Test.YtibgpeaplmcogaaGreatDoorGcdLawsAllM
import Derived.Test.YtibgpeaplmcogaaGreatDoorRefShiftAllM
import Derived.Deep.RegionHeld3
import Derived.Test.YtibgpeaplmcogaaGreatDoorLnNdAllM
namespace Go.Proofs.YtibgpeaplmcogaaGreatDoor
set_option maxRecDepth 100000
open Go.RowKit
set_option linter.unusedVariables false
set_option linter.unusedSimpArgs false

end Go.Proofs.YtibgpeaplmcogaaGreatDoor

namespace Go.Proofs.YtibgpeaplmcogaaGreatDoor
set_option maxRecDepth 100000
open Go.RowKit
set_option linter.unusedVariables false
set_option linter.unusedSimpArgs false

end Go.Proofs.YtibgpeaplmcogaaGreatDoor

namespace Go.Proofs.YtibgpeaplmcogaaGreatDoor
set_option maxRecDepth 100000
open Go.RowKit
set_option linter.unusedVariables false
set_option linter.unusedSimpArgs false

end Go.Proofs.YtibgpeaplmcogaaGreatDoor

namespace Go.Proofs.YtibgpeaplmcogaaGreatDoor
set_option maxRecDepth 100000
open Go.RowKit
set_option linter.unusedVariables false
set_option linter.unusedSimpArgs false

end Go.Proofs.YtibgpeaplmcogaaGreatDoor

namespace Go.Proofs.YtibgpeaplmcogaaGreatDoor
set_option maxRecDepth 100000
open Go.RowKit
set_option linter.unusedVariables false
set_option linter.unusedSimpArgs false

end Go.Proofs.YtibgpeaplmcogaaGreatDoor

namespace Go.Proofs.YtibgpeaplmcogaaGreatDoor
set_option maxRecDepth 100000
open Go.RowKit
set_option linter.unusedVariables false
set_option linter.unusedSimpArgs false

end Go.Proofs.YtibgpeaplmcogaaGreatDoor

namespace Go.Proofs.YtibgpeaplmcogaaGreatDoor
set_option maxRecDepth 100000
open Go.RowKit
set_option linter.unusedVariables false
set_option linter.unusedSimpArgs false

end Go.Proofs.YtibgpeaplmcogaaGreatDoor

namespace Go.Proofs.YtibgpeaplmcogaaGreatDoor
set_option maxRecDepth 100000
open Go.RowKit
set_option linter.unusedVariables false
set_option linter.unusedSimpArgs false

end Go.Proofs.YtibgpeaplmcogaaGreatDoor

namespace Go.Proofs.YtibgpeaplmcogaaGreatDoor
set_option maxRecDepth 100000
open Go.RowKit
set_option linter.unusedVariables false
set_option linter.unusedSimpArgs false

end Go.Proofs.YtibgpeaplmcogaaGreatDoor

namespace Go.Proofs.YtibgpeaplmcogaaGreatDoor
set_option maxRecDepth 100000
open Go.RowKit
set_option linter.unusedVariables false
set_option linter.unusedSimpArgs false

end Go.Proofs.YtibgpeaplmcogaaGreatDoor

namespace Go.Proofs.YtibgpeaplmcogaaGreatDoor
set_option maxRecDepth 100000
open Go.RowKit
set_option linter.unusedVariables false
set_option linter.unusedSimpArgs false

/-! ### plain -/
/-! ### the root of a rounded square -/
/-! ### the walks -/
end Go.Proofs.YtibgpeaplmcogaaGreatDoor

namespace Go.Proofs.YtibgpeaplmcogaaGreatDoor
set_option maxRecDepth 100000
open Go.RowKit
set_option linter.unusedVariables false
set_option linter.unusedSimpArgs false

end Go.Proofs.YtibgpeaplmcogaaGreatDoor

namespace Go.Proofs.YtibgpeaplmcogaaGreatDoor
set_option maxRecDepth 100000
open Go.RowKit
set_option linter.unusedVariables false
set_option linter.unusedSimpArgs false

end Go.Proofs.YtibgpeaplmcogaaGreatDoor

namespace Go.Proofs.YtibgpeaplmcogaaGreatDoor
set_option maxRecDepth 100000
open Go.RowKit
set_option linter.unusedVariables false
set_option linter.unusedSimpArgs false

/-- the number 1 in units of the least double -/
@[irreducible] def OO : Nat := 2 ^ K74
/-! ### what layers 10 and 13 do, plainly -/
/-! ### infinities stand beyond all others -/
/-! ### the nearest integer -/
/-! ### times powers of 2 -/
end Go.Proofs.YtibgpeaplmcogaaGreatDoor

namespace Go.Proofs.YtibgpeaplmcogaaGreatDoor
set_option maxRecDepth 100000
open Go.RowKit
set_option linter.unusedVariables false
set_option linter.unusedSimpArgs false

/-- what a double says, with its sign -/
def iv (b : Nat) : Int := sI (ng b) (vl b)
/-! ### bounds -/
/-! ### the exponential's sum: each step leaves it without a sign, at most twice the term that it adds -/
@[irreducible] def HALF : Nat := 4602678819172646912
end Go.Proofs.YtibgpeaplmcogaaGreatDoor

namespace Go.Proofs.YtibgpeaplmcogaaGreatDoor
set_option maxRecDepth 100000
open Go.RowKit
set_option linter.unusedVariables false
set_option linter.unusedSimpArgs false

@[irreducible] def PP : Nat := 4609176140021203710
@[irreducible] def LL : Nat := 4604418534311723008
@[irreducible] def ll : Nat := 4461442080421002358
/-! ### the rest after the multiple of the logarithm of 2 is taken away is at most a half -/
@[irreducible] def HH : Nat := 2 ^ (K74 - 53)
@[irreducible] def W746 : Nat := 4649773101213548544
@[irreducible] def W1077 : Nat := 4652451511538810880
@[irreducible] def W716 : Nat := 4601552919265804288
@[irreducible] def WTINY : Nat := 4517110426252607488
/-! ### the whole -/
end Go.Proofs.YtibgpeaplmcogaaGreatDoor

namespace Go.Proofs.YtibgpeaplmcogaaGreatDoor
set_option maxRecDepth 100000
open Go.RowKit
set_option linter.unusedVariables false
set_option linter.unusedSimpArgs false

@[irreducible] def ONE : Nat := 4607182418800017408
@[irreducible] def TWO : Nat := 4611686018427387904
@[irreducible] def RR : Nat := 4609047870845172685
@[irreducible] def W1116 : Nat := 4604367669032910848
@[irreducible] def W32 : Nat := 4609434218613702656
@[irreducible] def W516 : Nat := 4599301119452119040
@[irreducible] def W14 : Nat := 4598175219545276416
@[irreducible] def W116 : Nat := 4589168020290535424
@[irreducible] def W132 : Nat := 4584664420663164928
@[irreducible] def W164 : Nat := 4580160821035794432
@[irreducible] def W38 : Nat := 4600427019358961664
@[irreducible] def W3364 : Nat := 4602819556661002240
@[irreducible] def W3464 : Nat := 4602960294149357568
@[irreducible] def W4464 : Nat := 4604367669032910848
@[irreducible] def W53 : Nat := 4368491638549381120
@[irreducible] def W55 : Nat := 4359484439294640128
@[irreducible] def W4 : Nat := 4616189618054758400
/-! ### the sum over powers of z -/
/-! ### the logarithm near 1 -/
/-! ### the whole -/
end Go.Proofs.YtibgpeaplmcogaaGreatDoor

namespace Go.Proofs.YtibgpeaplmcogaaGreatDoor
set_option maxRecDepth 100000
open Go.RowKit
set_option linter.unusedVariables false
set_option linter.unusedSimpArgs false

/-! ### tables and sums -/
/-- the factorials of 0 to 13 -/
def facL : List Int := [1, 1, 2, 6, 24, 120, 720, 5040, 40320, 362880, 3628800, 39916800, 479001600, 6227020800]
/-! ### constants -/
/-! ### times powers of 2 -/
end Go.Proofs.YtibgpeaplmcogaaGreatDoor

namespace Go.Proofs.YtibgpeaplmcogaaGreatDoor
set_option maxRecDepth 100000
open Go.RowKit
set_option linter.unusedVariables false
set_option linter.unusedSimpArgs false

end Go.Proofs.YtibgpeaplmcogaaGreatDoor

namespace Go.Proofs.YtibgpeaplmcogaaGreatDoor
set_option maxRecDepth 100000
open Go.RowKit
set_option linter.unusedVariables false
set_option linter.unusedSimpArgs false

/-- the variable factorials holds the factorials -/
def Fac (w : World) : Prop := 1 < w.heap.size ∧ ∀ r, r < 14 → w.cell? ⟨1, r, none⟩ = some (.int .i64 (facL.getD r 0))
theorem Fac.below {w w' : World} (h : Fac w) (b : Below w.heap.size w w') : Fac w' :=
  ⟨Nat.lt_of_lt_of_le h.1 b.size, fun r hr => (b.cell (p := ⟨1, r, none⟩) h.1).trans (h.2 r hr)⟩
end Go.Proofs.YtibgpeaplmcogaaGreatDoor

namespace Go.Proofs.YtibgpeaplmcogaaGreatDoor
set_option maxRecDepth 100000
open Go.RowKit
set_option linter.unusedVariables false
set_option linter.unusedSimpArgs false

end Go.Proofs.YtibgpeaplmcogaaGreatDoor

namespace Go.Proofs.YtibgpeaplmcogaaGreatDoor
set_option maxRecDepth 100000
open Go.RowKit
set_option linter.unusedVariables false
set_option linter.unusedSimpArgs false

end Go.Proofs.YtibgpeaplmcogaaGreatDoor

namespace Go.Proofs.YtibgpeaplmcogaaGreatDoor
set_option maxRecDepth 100000
open Go.RowKit
set_option linter.unusedVariables false
set_option linter.unusedSimpArgs false

end Go.Proofs.YtibgpeaplmcogaaGreatDoor

namespace Go.Proofs.YtibgpeaplmcogaaGreatDoor
set_option maxRecDepth 100000
open Go.RowKit
set_option linter.unusedVariables false
set_option linter.unusedSimpArgs false

end Go.Proofs.YtibgpeaplmcogaaGreatDoor

namespace Go.Proofs.YtibgpeaplmcogaaGreatDoor
set_option maxRecDepth 100000
open Go.RowKit
set_option linter.unusedVariables false
set_option linter.unusedSimpArgs false

end Go.Proofs.YtibgpeaplmcogaaGreatDoor

namespace Go.Proofs.YtibgpeaplmcogaaGreatDoor
set_option maxRecDepth 100000
open Go.RowKit
set_option linter.unusedVariables false
set_option linter.unusedSimpArgs false

end Go.Proofs.YtibgpeaplmcogaaGreatDoor

namespace Go.Proofs.YtibgpeaplmcogaaGreatDoor
set_option maxRecDepth 100000
open Go.RowKit
set_option linter.unusedVariables false
set_option linter.unusedSimpArgs false

end Go.Proofs.YtibgpeaplmcogaaGreatDoor

namespace Go.Proofs.YtibgpeaplmcogaaGreatDoor
set_option maxRecDepth 100000
open Go.RowKit
set_option linter.unusedVariables false
set_option linter.unusedSimpArgs false

end Go.Proofs.YtibgpeaplmcogaaGreatDoor

namespace Go.Proofs.YtibgpeaplmcogaaGreatDoor
set_option maxRecDepth 100000
open Go.RowKit
set_option linter.unusedVariables false
set_option linter.unusedSimpArgs false

/-- naturals as words -/
def nts (v : List Nat) : List Int := v.map fun (n : Nat) => (n : Int)
/-- all are words -/
def AllW (v : List Nat) : Prop := ∀ x ∈ v, x < 18446744073709551616
theorem AllW.at_ {v : List Nat} (h : AllW v) (j : Nat) : v.getD j 0 < 18446744073709551616 := by
  rw [List.getD_eq_getElem?_getD]
  cases e : v[j]? with
  | none => show 0 < _; omega
  | some x => exact h x (List.mem_of_getElem? e)
theorem AllW.snoc {v : List Nat} {x : Nat} (h : AllW v) (hx : x < 18446744073709551616) : AllW (v ++ [x]) := by
  intro y hy
  rcases List.mem_append.1 hy with hy | hy
  · exact h y hy
  · rw [List.mem_singleton.1 hy]; exact hx
theorem AllW.us {v : List Nat} (h : AllW v) : ∀ x ∈ nts v, U x := by
  intro x hx
  unfold nts at hx
  obtain ⟨y, hy, rfl⟩ := List.mem_map.1 hx
  have := h y hy
  exact ⟨by omega, by omega⟩
end Go.Proofs.YtibgpeaplmcogaaGreatDoor

namespace Go.Proofs.YtibgpeaplmcogaaGreatDoor
set_option maxRecDepth 100000
open Go.RowKit
set_option linter.unusedVariables false
set_option linter.unusedSimpArgs false

end Go.Proofs.YtibgpeaplmcogaaGreatDoor

namespace Go.Proofs.YtibgpeaplmcogaaGreatDoor
set_option maxRecDepth 100000
open Go.RowKit
set_option linter.unusedVariables false
set_option linter.unusedSimpArgs false

def longB (k : Int) (q : RQ) : Bool := decide (k < q.n ∨ k < q.n')
def anyI (xs : List RI) : Bool := xs.any fun x => longB 8 x.q
def manyB (xs : List RI) : Bool := anyI xs || decide (300 < xs.length)
theorem anyI_yes {xs : List RI} {x : RI} (hx : x ∈ xs) (h : longB 8 x.q = true) : anyI xs = true := List.any_eq_true.2 ⟨x, hx, h⟩
theorem anyI_no {xs : List RI} (h : ∀ (i : Nat) (x : RI), xs[i]? = some x → longB 8 x.q = false) : anyI xs = false := by
  unfold anyI
  rw [Bool.eq_false_iff]
  intro hh
  obtain ⟨x, hx, h1⟩ := List.any_eq_true.1 hh
  obtain ⟨j, hj⟩ := List.mem_iff_getElem?.1 hx
  rw [h j x hj] at h1
  cases h1
theorem anyI_short {xs : List RI} (h : anyI xs = false) : Shrt 8 xs := by
  intro x hx
  have h1 : ¬ longB 8 x.q = true := fun hh => by rw [anyI_yes hx hh] at h; cases h
  unfold longB at h1
  rw [decide_eq_true_eq] at h1
  omega
set_option maxHeartbeats 2000000 in
theorem law_many {w : World} {A : Option Addr} {n c : Nat} {xs : List RI} (h : SlP w A n c xs) :
    Calls Tryz.prog 9 #[.slice A n c] w (RetBl (manyB xs) w) := by
  have hlen : xs.length = n := h.1.1
  have hmx : n ≤ 9223372036854775807 := by have h1 := h.1.2.1; have h2 := h.1.2.2.1; unfold maxLen at h2; omega
  have HL := Lib.hid hlen
  clear hlen
  go_enter Tryz.func9, Tryz.ntmps9
  go_wp2_with fail
  go_loopw [6] (fun iv wr => ∃ j : Nat, j ≤ n ∧ iv = .int .i64 j ∧ Below w.heap.size w wr ∧ Hid (∀ (i : Nat) x, i < j → xs[i]? = some x → longB 8 x.q = false)) (fun iv _ => n - mes iv)
  case atStart => exact ⟨0, by omega, rfl, Below.refl _ _, Lib.hid (fun i x hi => absurd hi (by omega))⟩
  case round =>
    obtain ⟨j, hj, rfl, hb, HF⟩ := hrel
    by_cases hj2 : j < n
    · obtain ⟨b0, off, x, rfl, hlt, hxk, hok, c0, c1, c2, c3, c4, c5⟩ := (h.below hb).at_ hj2
      have LG := plain_long (w := wr) (s := x.q.s) (A := x.q.A) (A' := x.q.A') (n := x.q.n) (n' := x.q.n') (c := x.q.c) (c' := x.q.c') 8
      obtain ⟨r, hr⟩ : ∃ r, longB 8 x.q = r := ⟨_, rfl⟩
      have LG2 : Calls Tryz.prog 43 #[.agg #[.bool x.q.s, .slice x.q.A x.q.n x.q.c, .slice x.q.A' x.q.n' x.q.c'], .int .i64 8] wr (RetBl (longB 8 x.q) wr) := LG
      rw [hr] at LG2
      have HK := Lib.hid LG2
      have HR := Lib.hid hr
      clear LG LG2 hok hr
      cases r
      case true =>
        have hyes := anyI_yes (mem_at hxk) HR.out
        clear HF hxk
        go_wp2_with fail
        with_reducible refine HK.out.mono ?_
        rintro _ w2 ⟨rfl, b2⟩
        go_wp2_with fail
        go_ret
        exact ⟨by unfold manyB; rw [hyes]; rfl, bb hb b2⟩
      case false =>
        go_wp2_with fail
        with_reducible refine HK.out.mono ?_
        rintro _ w2 ⟨rfl, b2⟩
        go_wp2_with fail
        go_roundw
        case rel => exact ⟨j + 1, by omega, by go_num, bb hb b2, Lib.hid (fun i y hi hy => by
          rcases Nat.lt_or_eq_of_le (Nat.le_of_lt_succ hi) with h9 | h9
          · exact HF.out i y h9 hy
          · rw [h9, hxk] at hy; cases hy; exact HR.out)⟩
        case measure => simp [mes, intOf]; omega
    · obtain rfl : j = n := by omega
      have hno := anyI_no (xs := xs) (fun i x hx => HF.out i x (by
        have := HL.out
        rcases Nat.lt_or_ge i xs.length with h9 | h9
        · omega
        · rw [List.getElem?_eq_none h9] at hx; cases hx) hx)
      have hm : manyB xs = decide (300 < j) := by unfold manyB; rw [hno, Bool.false_or, HL.out]
      rcases Nat.lt_or_ge 300 j with h9 | h9
      · rw [decide_eq_true h9] at hm
        go_wp2_with fail
        go_ret
        exact ⟨by rw [hm]; simp; omega, hb⟩
      · rw [decide_eq_false (by omega)] at hm
        go_wp2_with fail
        go_ret
        exact ⟨by rw [hm]; simp; omega, hb⟩

end Go.Proofs.YtibgpeaplmcogaaGreatDoor

namespace Go.Proofs.YtibgpeaplmcogaaGreatDoor
set_option maxRecDepth 100000
open Go.RowKit
set_option linter.unusedVariables false
set_option linter.unusedSimpArgs false

theorem SlC.new {k : Nat} {V : Type} {cells : V → List Value} {ok : World → V → Prop} (w : World) (arr : Array Value) (t : TypeId) (xs : List V) (hl : ∀ x ∈ xs, (cells x).length = k) (he : arr.toList = xs.flatMap cells) (hok : ∀ x ∈ xs, ok (w.alloc (.cells arr t)) x) (hn : xs.length ≤ maxLen) :
    SlC k cells ok (w.alloc (.cells arr t)) (some ⟨w.heap.size, 0, none⟩) xs.length xs.length xs := by
  refine ⟨⟨rfl, Nat.le_refl _, hn, fun x hx => ⟨hok x hx, hl x hx⟩⟩, fun h0 => ⟨w.heap.size, 0, rfl, by simp, fun j hj i hi => ?_⟩⟩
  rw [← flat_at xs hl j i hi, ← he, cell_of_row _ w.heap.size _ arr t (0, 0) (heap_alloc_new w _), Nat.zero_add]
  simp
theorem SlC.take {k : Nat} {V : Type} {cells : V → List Value} {ok : World → V → Prop} {w : World} {A : Option Addr} {n c m : Nat} {xs : List V} (h : SlC k cells ok w A n c xs) (hm : m ≤ n) : SlC k cells ok w A m c (xs.take m) := by
  refine ⟨⟨by rw [List.length_take, h.1.1]; omega, by have := h.1.2.1; omega, h.1.2.2.1, fun x hx => h.1.2.2.2 x (List.mem_of_mem_take hx)⟩, fun h0 => ?_⟩
  obtain ⟨b, off, e, hlt, hc⟩ := h.2 (by omega)
  refine ⟨b, off, e, hlt, fun j hj i hi => ?_⟩
  rw [hc j (by omega) i hi, List.getElem?_take, if_pos hj]
def ins0 (op : Int) : RI := ⟨op, 0, 0, ⟨false, none, 0, 0, [], none, 0, 0, []⟩⟩
theorem ins0_ok (w : World) {op : Int} (h : I64 op) : (ins0 op).ok w := ⟨h, by unfold I64; simp [ins0], by unfold I64; simp [ins0], Sl.nil _ _ _, Sl.nil _ _ _, by unfold maxLen; simp [ins0], by unfold maxLen; simp [ins0]⟩
theorem ins0_sh {l : List RI} (h : ∀ x ∈ l, ∃ op, x = ins0 op) {N : Nat} : Shrt N l := by
  intro x hx
  obtain ⟨op, rfl⟩ := h x hx
  exact ⟨Nat.zero_le _, Nat.zero_le _⟩
def L3 : List RI := [ins0 1, ins0 6, ins0 7]
end Go.Proofs.YtibgpeaplmcogaaGreatDoor

namespace Go.Proofs.YtibgpeaplmcogaaGreatDoor
set_option maxRecDepth 100000
open Go.RowKit Go.Maps
set_option linter.unusedVariables false
set_option linter.unusedSimpArgs false

/-- the names of the Ops, by their bytes -/
def nameL : List (List UInt8) := [[], [105, 110, 112, 117, 116], [99, 111, 110, 115, 116], [110, 101, 103], [97, 100, 100], [115, 117, 98], [109, 117, 108], [100, 105, 118], [115, 113, 114, 116], [101, 120, 112], [108, 111, 103]]
def nmS (r : Nat) : ByteArray := ⟨(nameL.getD r []).toArray⟩
/-- the variable names holds the names -/
def Nam (w : World) : Prop := 0 < w.heap.size ∧ ∀ r, r < 11 → w.cell? ⟨0, r, none⟩ = some (.string (nmS r))
theorem Nam.below {w w' : World} (h : Nam w) (b : Below w.heap.size w w') : Nam w' :=
  ⟨Nat.lt_of_lt_of_le h.1 b.size, fun r hr => (b.cell (p := ⟨0, r, none⟩) h.1).trans (h.2 r hr)⟩
theorem line_word {r : Nat} (hr : r < 11) (w : World) (hN : Nam w) :
    Calls Tryz.prog 20 #[.int .i64 (r : Int)] w fun e w' => e = .returned (.string (nmS r)) ∧ w = w' := by
  have hc := hN.2 r hr
  have BL := Lib.hid (line_below (r : Int) 11 w)
  have hd : decide (0 ≤ (r : Int) ∧ (r : Int) < 11) = true := decide_eq_true (by omega)
  rw [hd] at BL
  generalize nmS r = s at *
  clear hd hN
  go_enter Tryz.func20, Tryz.ntmps20
  go_wp2_with fail
  with_reducible refine BL.out.mono ?_
  rintro _ _ ⟨rfl, rfl⟩
  go_wp2_with fail
  go_ret
  exact ⟨rfl, rfl⟩
theorem small0 (w : World) : Calls Tryz.prog 197 #[.int .i64 0] w fun e w' => e = .returned (.string ⟨#[48]⟩) ∧ w = w' := by
  go_enter Tryz.func197, Tryz.ntmps197
  go_wp2
  go_ret
  exact ⟨rfl, rfl⟩
theorem format0 (w : World) : Calls Tryz.prog 129 #[.int .i64 0, .int .i64 10] w fun e w' => e = .returned (.string ⟨#[48]⟩) ∧ w = w' := by
  have H := Lib.hid (small0 w)
  go_enter Tryz.func129, Tryz.ntmps129
  go_wp2_with fail
  with_reducible refine H.out.mono ?_
  rintro _ _ ⟨rfl, rfl⟩
  go_wp2_with fail
  go_ret
  exact ⟨rfl, rfl⟩
theorem itoa0 (w : World) : Calls Tryz.prog 74 #[.int .i64 0] w fun e w' => e = .returned (.string ⟨#[48]⟩) ∧ w = w' := by
  have H := Lib.hid (format0 w)
  go_enter Tryz.func74, Tryz.ntmps74
  go_wp2_with fail
  with_reducible refine H.out.mono ?_
  rintro _ _ ⟨rfl, rfl⟩
  go_wp2_with fail
  go_ret
  exact ⟨rfl, rfl⟩
theorem sc_itoa0 (w : World) : Calls Tryz.prog 48 #[.int .i64 0] w fun e w' => e = .returned (.string ⟨#[48]⟩) ∧ w = w' := by
  have H := Lib.hid (itoa0 w)
  go_enter Tryz.func48, Tryz.ntmps48
  go_wp2_with fail
  with_reducible refine H.out.mono ?_
  rintro _ _ ⟨rfl, rfl⟩
  go_wp2_with fail
  go_ret
  exact ⟨rfl, rfl⟩
def neg0 : ByteArray := ⟨#[110, 101, 103, 32, 48]⟩
theorem neg0_eq : nmS 3 ++ ((⟨#[32]⟩ : ByteArray) ++ ⟨#[48]⟩) = neg0 := by decide +kernel

set_option maxRecDepth 100000 in
set_option maxHeartbeats 2000000 in
theorem show_neg0 (w : World) (hN : Nam w) :
    Calls Tryz.prog 24 #[.agg #[.int .i64 3, .int .i64 0, .int .i64 0, .bool false, .slice none 0 0, .slice none 0 0]] w fun e w' => e = .returned (.string neg0) ∧ Below w.heap.size w w' := by
  obtain ⟨V, hW, Bx, hb0⟩ := box0 27 w #[.int .i64 3, .int .i64 0, .int .i64 0, .bool false, .slice none 0 0, .slice none 0 0]
  have AR := fun (w1 : World) => Lib.hid (line_arity 3 w1)
  have ear : arity 3 = 1 := by decide
  rw [ear] at AR
  have WD := line_word (r := 3) (by omega) V (hN.below hb0)
  rw [show ((3 : Nat) : Int) = 3 from rfl] at WD
  have OP := line_operands (op := 3) (a := 0) (b := 0) (q := ⟨false, none, 0, 0, [], none, 0, 0, []⟩) (by unfold I64; omega) (by unfold I64; omega) V
  have eop : opsI 3 0 0 = [0] := by decide
  rw [eop] at OP
  have he := neg0_eq
  have hsz : (nmS 3).size = 3 := rfl
  generalize nmS 3 = s3 at *
  have k := Bx.six.1
  have HWD := Lib.hid WD
  have HOP := Lib.hid OP
  have HW := Lib.hid hW
  have HE := Lib.hid he
  clear WD OP hW Bx he
  go_enter Tryz.func24, Tryz.ntmps24
  go_wp2_with fail
  with_reducible refine (AR _).out.mono ?_
  rintro _ _ ⟨rfl, rfl⟩
  go_wp2_with fail
  rw [HW.out]
  obtain ⟨k0, k1, k2, k3, k4, k5⟩ := k
  with_reducible refine HWD.out.mono ?_
  rintro _ _ ⟨rfl, rfl⟩
  go_wp2_with fail
  with_reducible refine HOP.out.mono ?_
  rintro _ w2 ⟨A2, n2, c2, rfl, z2, b2⟩
  obtain rfl : n2 = 1 := z2.1.1.symm
  have HZ := Lib.hid z2
  clear z2 HOP HWD AR k0 k1 k2 k3 k4 k5
  go_wp2_with fail
  go_loopw [3, 41] (fun tv iv wr => ∃ s : ByteArray, tv = .string s ∧ Below w2.heap.size w2 wr ∧ ((iv = .int .i64 0 ∧ s = s3) ∨ (iv = .int .i64 1 ∧ s = neg0))) (fun _ iv _ => 1 - mes iv)
  case atStart => exact ⟨_, rfl, Below.refl _ _, .inl ⟨rfl, rfl⟩⟩
  case round =>
    obtain ⟨s, rfl, hb, ⟨rfl, rfl⟩ | ⟨rfl, rfl⟩⟩ := hrel
    · obtain ⟨b0, off, x, rfl, hlt, hx, hoi, c0⟩ := (HZ.out.below hb).at_ (j := 0) (by omega)
      obtain rfl : x = 0 := by simpa using hx.symm
      have c0' : wr.cell? ⟨b0, off, none⟩ = some (.int .i64 0) := c0
      have IT := Lib.hid (sc_itoa0 wr)
      clear c0 hx hoi
      go_wp2_with fail
      with_reducible refine IT.out.mono ?_
      rintro _ _ ⟨rfl, rfl⟩
      go_wp2_with fail
      go_roundw
      case rel => exact ⟨_, rfl, hb, .inr ⟨by go_num, HE.out⟩⟩
      case measure => simp [mes, intOf]
    · go_wp2_with fail
      go_ret
      exact ⟨rfl, bb hb0 (bb b2 hb)⟩

def M3 : List RI := [ins0 1, ins0 3, ins0 6]
def D3 : Array Value := #[.int .i64 1, .int .i64 0, .int .i64 0, .bool false, .slice none 0 0, .slice none 0 0, .int .i64 3, .int .i64 0, .int .i64 0, .bool false, .slice none 0 0, .slice none 0 0, .int .i64 6, .int .i64 0, .int .i64 0, .bool false, .slice none 0 0, .slice none 0 0]
theorem M3_new (w : World) : SlP (w.alloc (.cells D3 27)) (some ⟨w.heap.size, 0, none⟩) 3 3 M3 := by
  refine SlC.new w D3 27 M3 (fun x _ => rfl) rfl (fun x hx => ?_) (by unfold maxLen; simp [M3])
  unfold M3 at hx
  simp only [List.mem_cons, List.not_mem_nil, or_false] at hx
  rcases hx with rfl | rfl | rfl <;> exact ins0_ok _ (by unfold I64; omega)
theorem M3_sh (N : Nat) : Shrt N M3 := ins0_sh (fun x hx => by
  unfold M3 at hx
  simp only [List.mem_cons, List.not_mem_nil, or_false] at hx
  rcases hx with rfl | rfl | rfl <;> exact ⟨_, rfl⟩)
theorem M3_prog : IsProg vq nq (M3.map RI.pi) := by
  refine ⟨fun i hi => ?_, by decide⟩
  have hi' : i < 3 := hi
  have h3 : i = 0 ∨ i = 1 ∨ i = 2 := by omega
  rcases h3 with rfl | rfl | rfl
  · show fits vq nq ⟨1, 0, 0, (false, [], [])⟩ 0
    simp [fits, nq]
  · show fits vq nq ⟨3, 0, 0, (false, [], [])⟩ 1
    simp [fits, nq, arity]
  · show fits vq nq ⟨6, 0, 0, (false, [], [])⟩ 2
    simp [fits, nq, arity]
theorem M3_trim {mk : Nat → Bool} (h : IsNeed (M3.map RI.pi) [2, 9] mk) : trimL (M3.map RI.pi) mk = [⟨1, 0, 0, (false, [], [])⟩, ⟨6, 0, 0, (false, [], [])⟩] ∧ trimO (M3.map RI.pi) mk [2, 9] = [1, -1] := by
  have h2 : mk 2 = true := (h 2 (by decide)).2 (.inl (by decide))
  have h1 : mk 1 = false := by
    rw [Bool.eq_false_iff]
    intro hh
    rcases (h 1 (by decide)).1 hh with g | ⟨k, k1, k2, k3, k4⟩
    · exact absurd g (by decide)
    · have k2' : k < 3 := k2
      obtain rfl : k = 2 := by omega
      have k5 : Uses ⟨6, 0, 0, (false, [], [])⟩ 1 := k4
      unfold Uses at k5
      simp [arity] at k5
  have h0 : mk 0 = true := (h 0 (by decide)).2 (.inr ⟨2, by omega, by decide, h2, by
    show Uses ⟨6, 0, 0, (false, [], [])⟩ 0
    unfold Uses
    simp [arity]⟩)
  constructor
  · show trimTo _ mk 3 = _
    simp only [trimTo, h0, h1, h2, if_true, if_false, Bool.false_eq_true]
    show [ren mk ⟨1, 0, 0, (false, [], [])⟩] ++ [ren mk ⟨6, 0, 0, (false, [], [])⟩] = _
    simp [ren, arity, cnt]
  · show [newAt 3 mk 2, newAt 3 mk 9] = _
    simp [newAt, cnt, h0, h1]

set_option maxRecDepth 100000 in
set_option maxHeartbeats 4000000 in
theorem same15 (w : World) (hN : Nam w) : Calls Tryz.prog 10 #[] w (RetBl true w) := by
  obtain ⟨V1, e1⟩ : ∃ V1, w.alloc (.cells #[.int .i64 1, .int .i64 0, .int .i64 0, .bool false, .slice none 0 0, .slice none 0 0, .int .i64 3, .int .i64 0, .int .i64 0, .bool false, .slice none 0 0, .slice none 0 0, .int .i64 6, .int .i64 0, .int .i64 0, .bool false, .slice none 0 0, .slice none 0 0] 27) = V1 := ⟨_, rfl⟩
  have p1 : SlP V1 (some ⟨w.heap.size, 0, none⟩) 3 3 M3 := by rw [← e1]; exact M3_new w
  have b1 : Below w.heap.size w V1 := by rw [← e1]; exact below_alloc _ _
  have s1 : V1.heap.size = w.heap.size + 1 := by rw [← e1]; simp
  obtain ⟨V2, e2⟩ : ∃ V2, V1.alloc (.cells #[.int .i64 2, .int .i64 9] 3) = V2 := ⟨_, rfl⟩
  have b2 : Below V1.heap.size V1 V2 := by rw [← e2]; exact below_alloc _ _
  have z2 : SlZ V2 (some ⟨w.heap.size + 1, 0, none⟩) 2 2 [2, 9] := by
    have h9 := two_new w V2 (w.heap.size + 1) 2 9 3 (by unfold I64; omega) (by unfold I64; omega) (by rw [← e2, ← s1]; exact Box.new V1 _ _) 2 (by omega)
    exact h9
  rw [← e1] at e2
  have TR := line_Trim (p1.below b2) (M3_sh 8) (by omega) z2 (by omega) (by omega) M3_prog
  have RT := fun (w1 : World) (hb : Below V2.heap.size V2 w1) => line_right ((p1.below b2).below hb) (M3_sh 8) (by omega) (by omega)
  rw [(progB_iff _).2 M3_prog] at RT
  have SH := fun (w1 : World) (hb : Below V2.heap.size V2 w1) => show_neg0 w1 (hN.below (bb b1 (bb b2 hb)))
  have HTR := Lib.hid TR
  have HRT := Lib.hid RT
  have HSH := Lib.hid SH
  have HV := Lib.hid e2
  have HP := Lib.hid p1
  clear TR RT SH e2 e1 p1 z2 s1
  go_enter Tryz.func10, Tryz.ntmps10
  go_wp2_with fail
  rw [HV.out]
  with_reducible refine HTR.out.mono ?_
  rintro _ w3 ⟨mk, hnd, A1, n1, c1, ys, A2, n2, c2, rfl, p3, ht, _, z3, b3⟩
  obtain ⟨t1, t2⟩ := M3_trim hnd
  rw [t1] at ht
  rw [t2] at z3
  have hn1 : n1 = 2 := by
    have h9 := congrArg List.length ht
    rw [List.length_map, p3.1.1] at h9
    exact h9
  have hn2 : n2 = 2 := z3.1.1.symm
  subst hn1 hn2
  have HP3 := Lib.hid p3
  have HZ3 := Lib.hid z3
  have HT := Lib.hid ht
  clear p3 z3 ht t1 t2 hnd HTR HV
  go_wp2_with fail
  with_reducible refine (HRT.out _ b3).mono ?_
  rintro _ w4 ⟨rfl, b4⟩
  obtain ⟨g1, o1, x1, rfl, hg1, hx1, _, k0, k1, k2, k3, k4, k5⟩ := (HP3.out.below b4).at_ (j := 1) (by omega)
  have hop : x1.op = 6 := by
    have h9 := congrArg (fun l : List PI => (l.getD 1 PI.nil).op) HT.out
    rw [pi_at hx1] at h9
    exact h9
  rw [hop] at k0
  obtain ⟨g2, o2, x2, e9, hg2, hx2, _, j0⟩ := (HZ3.out.below b4).at_ (j := 0) (by omega)
  obtain ⟨g3, o3, x3, e8, hg3, hx3, _, j1⟩ := (HZ3.out.below b4).at_ (j := 1) (by omega)
  rw [Nat.add_zero] at j0
  subst e9
  injection e8 with e8
  injection e8 with e6 e7
  subst e6 e7
  obtain rfl : x2 = 1 := by simpa using hx2.symm
  obtain rfl : x3 = -1 := by simpa using hx3.symm
  obtain ⟨g4, o4, x4, e5, hg4, hx4, _, i0, i1, i2, i3, i4, i5⟩ := ((HP.out.below b2).below (bb b3 b4)).at_ (j := 1) (by omega)
  injection e5 with e5
  injection e5 with e6 e7
  subst e6 e7
  obtain rfl : x4 = ins0 3 := by simpa [M3] using hx4.symm
  unfold ins0 at i0 i1 i2 i3 i4 i5
  simp only [Nat.one_mul, Nat.zero_add, Nat.reduceAdd] at i0 i1 i2 i3 i4 i5
  clear hx1 hx2 hx3 hx4 k1 k2 k3 k4 k5 hop
  go_wp2_with fail
  with_reducible refine (HSH.out _ (bb b3 b4)).mono ?_
  rintro _ w5 ⟨rfl, b5⟩
  unfold neg0
  go_wp2_with fail
  go_ret
  exact ⟨rfl, bb b1 (bb b2 (bb b3 (bb b4 b5)))⟩

end Go.Proofs.YtibgpeaplmcogaaGreatDoor

namespace Go.Proofs.YtibgpeaplmcogaaGreatDoor
set_option maxRecDepth 100000
open Go.RowKit Go.Maps
set_option linter.unusedVariables false
set_option linter.unusedSimpArgs false

theorem plain_ints {w : World} {A B : Option Addr} {n c d : Nat} {zs : List Int} (h : SlZ w A n c zs) (h' : SlZ w B n d zs) (hn : n ≤ 65536) :
    Calls Tryz.prog 32 #[.slice A n c, .slice B n d] w (RetBl true w) := by
  go_enter Tryz.func32, Tryz.ntmps32
  go_wp2
  go_loopw [13] (fun i wr => ∃ k m : Nat, k ≤ n ∧ i = .int .i64 k ∧ wr = w.drewN m) (fun i _ => n - mes i)
  case atStart => exact ⟨0, 0, by omega, rfl, rfl⟩
  case round =>
    obtain ⟨k, m, hk, rfl, rfl⟩ := hrel
    by_cases hk2 : k < n
    · obtain ⟨b, off, x, rfl, hb, hx, _, g1⟩ := h.at_ hk2
      obtain ⟨b', off', y, rfl, hb', hy, _, g2⟩ := h'.at_ hk2
      obtain rfl : x = y := by rw [hx] at hy; cases hy; rfl
      clear hx hy
      go_wp2
      go_region
      all_goals try go_wp2
      go_roundw
      case rel => exact ⟨k + 1, m + 1, by omega, by go_num, rfl⟩
      case measure => simp [mes, intOf]; omega
    · go_wp2
      go_ret
      exact ⟨rfl, ⟨rfl, rfl, rfl, Nat.le_refl _, fun _ _ => rfl⟩⟩
theorem plain_bools {w : World} {g g' n : Nat} {bs : List Bool} (h : BRow w g bs) (h' : BRow w g' bs) (hl : bs.length = n) (hn : n ≤ 65536) :
    Calls Tryz.prog 29 #[.slice (some ⟨g, 0, none⟩) n n, .slice (some ⟨g', 0, none⟩) n n] w (RetBl true w) := by
  have HL := Lib.hid hl
  clear hl
  go_enter Tryz.func29, Tryz.ntmps29
  go_wp2
  go_loopw [13] (fun i wr => ∃ k m : Nat, k ≤ n ∧ i = .int .i64 k ∧ wr = w.drewN m) (fun i _ => n - mes i)
  case atStart => exact ⟨0, 0, by omega, rfl, rfl⟩
  case round =>
    obtain ⟨k, m, hk, rfl, rfl⟩ := hrel
    by_cases hk2 : k < n
    · have g1 := h.cell (i := k) (by have := HL.out; omega)
      have g2 := h'.cell (i := k) (by have := HL.out; omega)
      generalize bs.getD k false = x at *
      cases x
      all_goals
        go_wp2
        go_region
        all_goals try go_wp2
        go_roundw
        case rel => exact ⟨k + 1, m + 1, by omega, by go_num, rfl⟩
        case measure => simp [mes, intOf]; omega
    · go_wp2
      go_ret
      exact ⟨rfl, ⟨rfl, rfl, rfl, Nat.le_refl _, fun _ _ => rfl⟩⟩

set_option maxRecDepth 100000 in
set_option maxHeartbeats 4000000 in
theorem ref_sameP {w : World} {A B : Option Addr} {n c d N : Nat} {xs ys : List RI} (h : SlP w A n c xs) (h' : SlP w B n d ys) (e : xs.map RI.pi = ys.map RI.pi) (hs : Shrt N xs) (hs' : Shrt N ys) (hN : N ≤ 1000) (hn : n ≤ 65536) :
    Calls Tryz.prog 31 #[.slice A n c, .slice B n d] w (RetBl true w) := by
  have HE := Lib.hid e
  have HH := Lib.hid h
  have HH' := Lib.hid h'
  clear e h h'
  go_enter Tryz.func31, Tryz.ntmps31
  go_wp2_with fail
  go_loopw [13] (fun iv wr => ∃ j : Nat, j ≤ n ∧ iv = .int .i64 j ∧ Below w.heap.size w wr) (fun iv _ => n - mes iv)
  case atStart => exact ⟨0, by omega, rfl, Below.refl _ _⟩
  case round =>
    obtain ⟨j, hj, rfl, hb⟩ := hrel
    by_cases hj2 : j < n
    · obtain ⟨b1, o1, x, rfl, hb1, hx, hxo, k0, k1, k2, k3, k4, k5⟩ := (HH.out.below hb).at_ hj2
      obtain ⟨b2, o2, y, rfl, hb2, hy, hyo, j0, j1, j2, j3, j4, j5⟩ := (HH'.out.below hb).at_ hj2
      have exy : x.pi = y.pi := by rw [← pi_at hx, ← pi_at hy, HE.out]
      obtain ⟨hs1, hs2⟩ := hs x (mem_at hx)
      obtain ⟨hs3, hs4⟩ := hs' y (mem_at hy)
      obtain ⟨op, a, b, ⟨s, A1, n1, c1, z1, A2, n2, c2, z2⟩⟩ := x
      obtain ⟨op', a', b', ⟨s', A3, n3, c3, z3, A4, n4, c4, z4⟩⟩ := y
      unfold RI.pi at exy
      simp only [PI.mk.injEq, Prod.mk.injEq] at exy
      obtain ⟨rfl, rfl, rfl, rfl, rfl, rfl⟩ := exy
      obtain ⟨_, _, _, q1, q2, _⟩ := hxo
      obtain ⟨_, _, _, q3, q4, _⟩ := hyo
      simp only at k0 k1 k2 k3 k4 k5 j0 j1 j2 j3 j4 j5 hs1 hs2 hs3 hs4 q1 q2 q3 q4
      have SM := fun (w1 : World) (hb9 : Below wr.heap.size wr w1) => ref_same (s := s) (t := s) (q1.below hb9) (q2.below hb9) (q3.below hb9) (q4.below hb9) (by omega) (by omega) (by omega) (by omega)
      have ed : decide (s = s ∧ z1 = z1 ∧ z2 = z2) = true := decide_eq_true ⟨rfl, rfl, rfl⟩
      simp only [ed] at SM
      have hS : ∀ w', Below wr.heap.size wr w' → (w'.cell? ⟨b1, o1 + j * 6, none⟩ = some (.int .i64 op) ∧ w'.cell? ⟨b1, o1 + j * 6 + 1, none⟩ = some (.int .i64 a) ∧ w'.cell? ⟨b1, o1 + j * 6 + 2, none⟩ = some (.int .i64 b) ∧ w'.cell? ⟨b1, o1 + j * 6 + 3, none⟩ = some (.bool s) ∧ w'.cell? ⟨b1, o1 + j * 6 + 4, none⟩ = some (.slice A1 n1 c1) ∧ w'.cell? ⟨b1, o1 + j * 6 + 5, none⟩ = some (.slice A2 n2 c2)) ∧ (w'.cell? ⟨b2, o2 + j * 6, none⟩ = some (.int .i64 op) ∧ w'.cell? ⟨b2, o2 + j * 6 + 1, none⟩ = some (.int .i64 a) ∧ w'.cell? ⟨b2, o2 + j * 6 + 2, none⟩ = some (.int .i64 b) ∧ w'.cell? ⟨b2, o2 + j * 6 + 3, none⟩ = some (.bool s) ∧ w'.cell? ⟨b2, o2 + j * 6 + 4, none⟩ = some (.slice A3 n3 c3) ∧ w'.cell? ⟨b2, o2 + j * 6 + 5, none⟩ = some (.slice A4 n4 c4)) := fun w' hb9 =>
        ⟨⟨(hb9.cell (p := ⟨b1, o1 + j * 6, none⟩) hb1).trans k0, (hb9.cell (p := ⟨b1, o1 + j * 6 + 1, none⟩) hb1).trans k1, (hb9.cell (p := ⟨b1, o1 + j * 6 + 2, none⟩) hb1).trans k2, (hb9.cell (p := ⟨b1, o1 + j * 6 + 3, none⟩) hb1).trans k3, (hb9.cell (p := ⟨b1, o1 + j * 6 + 4, none⟩) hb1).trans k4, (hb9.cell (p := ⟨b1, o1 + j * 6 + 5, none⟩) hb1).trans k5⟩,
         (hb9.cell (p := ⟨b2, o2 + j * 6, none⟩) hb2).trans j0, (hb9.cell (p := ⟨b2, o2 + j * 6 + 1, none⟩) hb2).trans j1, (hb9.cell (p := ⟨b2, o2 + j * 6 + 2, none⟩) hb2).trans j2, (hb9.cell (p := ⟨b2, o2 + j * 6 + 3, none⟩) hb2).trans j3, (hb9.cell (p := ⟨b2, o2 + j * 6 + 4, none⟩) hb2).trans j4, (hb9.cell (p := ⟨b2, o2 + j * 6 + 5, none⟩) hb2).trans j5⟩
      have f1 : (op != op) = false := by simp
      have f2 : (a != a) = false := by simp
      have f3 : (b != b) = false := by simp
      have HSM := Lib.hid SM
      have HS := Lib.hid hS
      clear SM hS q1 q2 q3 q4 hs1 hs2 hs3 hs4 hx hy ed
      go_wp2_with fail
      go_region_held3 (fun w' => (w'.cell? ⟨b1, o1 + j * 6, none⟩ = some (.int .i64 op) ∧ w'.cell? ⟨b1, o1 + j * 6 + 1, none⟩ = some (.int .i64 a) ∧ w'.cell? ⟨b1, o1 + j * 6 + 2, none⟩ = some (.int .i64 b) ∧ w'.cell? ⟨b1, o1 + j * 6 + 3, none⟩ = some (.bool s) ∧ w'.cell? ⟨b1, o1 + j * 6 + 4, none⟩ = some (.slice A1 n1 c1) ∧ w'.cell? ⟨b1, o1 + j * 6 + 5, none⟩ = some (.slice A2 n2 c2)) ∧ (w'.cell? ⟨b2, o2 + j * 6, none⟩ = some (.int .i64 op) ∧ w'.cell? ⟨b2, o2 + j * 6 + 1, none⟩ = some (.int .i64 a) ∧ w'.cell? ⟨b2, o2 + j * 6 + 2, none⟩ = some (.int .i64 b) ∧ w'.cell? ⟨b2, o2 + j * 6 + 3, none⟩ = some (.bool s) ∧ w'.cell? ⟨b2, o2 + j * 6 + 4, none⟩ = some (.slice A3 n3 c3) ∧ w'.cell? ⟨b2, o2 + j * 6 + 5, none⟩ = some (.slice A4 n4 c4))) (first | with_reducible exact HS.out _ (Below.refl _ wr).drew | with_reducible exact HS.out _ x2 | fail)
        (first
          | (go_at_call 42; (with_reducible refine (HSM.out _ ?hb1).mono ?_); (case hb1 => exact (Below.refl _ wr).drew); rintro _ w9 ⟨rfl, b9⟩; have x2 : Below wr.heap.size wr w9 := Below.undrew b9))
      all_goals
        go_wp2_with fail
        go_roundw
        case rel => exact ⟨j + 1, by omega, by go_num, bb hb x2⟩
        case measure => simp [mes, intOf]; omega
    · obtain rfl : j = n := by omega
      go_wp2_with fail
      go_ret
      exact ⟨rfl, hb⟩

end Go.Proofs.YtibgpeaplmcogaaGreatDoor

namespace Go.Proofs.YtibgpeaplmcogaaGreatDoor
set_option maxRecDepth 100000
open Go.RowKit Go.Maps
set_option linter.unusedVariables false
set_option linter.unusedSimpArgs false

theorem BRow.keep {w w' : World} {g g' : Nat} {bs : List Bool} (h : BRow w g bs) (k : Keep g' w w') (hne : g ≠ g') : BRow w' g bs := (k.block g h.lt hne).trans h
theorem set_mark {bs : List Bool} {i : Nat} (hi : i < bs.length) (k : Nat) : (bs.set i true).getD k false = true ↔ (bs.getD k false = true ∨ k = i) := by
  rw [set_at hi]
  by_cases e : k = i
  · simp [e]
  · simp [e]
theorem keep_tr {g : Nat} {a b c : World} (h : Keep g a b) (k : Keep g b c) : Keep g a c := by
  refine ⟨k.os.trans h.os, k.tape.trans h.tape, k.output.trans h.output, Nat.le_trans h.size k.size, fun b h1 h2 => (k.block b (by have := h.size; omega) h2).trans (h.block b h1 h2)⟩
def RetNd (l : List PI) (bs : List Bool) (i g n : Nat) (w : World) (e : Ending) (w' : World) : Prop := e = .returned (.tuple #[]) ∧ ∃ bs' : List Bool, bs'.length = n ∧ BRow w' g bs' ∧ Dfs l (fun k => bs.getD k false) i (fun k => bs'.getD k false) ∧ Keep g w w'

set_option maxRecDepth 100000 in
set_option maxHeartbeats 4000000 in
theorem ref_needs {w0 : World} {A : Option Addr} {n c : Nat} {xs : List RI} (h : SlP w0 A n c xs) (hA : Ahead (xs.map RI.pi)) (hn : n ≤ 65536) :
    ∀ i, i < n → ∀ (w : World) (bs : List Bool) (g : Nat), Below w0.heap.size w0 w → w0.heap.size ≤ g → BRow w g bs → bs.length = n →
    Calls Tryz.prog 55 #[.slice A n c, .slice (some ⟨g, 0, none⟩) n n, .int .i64 (i : Int)] w (RetNd (xs.map RI.pi) bs i g n w) := by
  have hlen : (xs.map RI.pi).length = n := by rw [List.length_map]; exact h.1.1
  intro i
  induction i using Nat.strongRecOn with
  | _ i ih =>
  intro hi w bs g hb hg hr hl
  have k0 := hr.cell (i := i) (by omega)
  have f0 := hr.free i
  cases hbi : bs.getD i false
  case true =>
    have D0 := dfs_seen (xs.map RI.pi) (m := fun k => bs.getD k false) (i := i) hbi
    rw [hbi] at k0
    have HD := Lib.hid D0
    have HR := Lib.hid hr
    have HL := Lib.hid hl
    clear D0 hbi hr hl ih hlen hA h
    go_enter Tryz.func55, Tryz.ntmps55
    go_wp2_with fail
    refine bodyPost_ret (results_none rfl _ _ _) rfl ?_
    exact ⟨rfl, bs, HL.out, HR.out, HD.out, Keep.refl _ _⟩
  case false =>
    rw [hbi] at k0
    obtain ⟨W1, hW1⟩ : ∃ W1, w.setCell ⟨g, i, none⟩ (.bool true) = W1 := ⟨_, rfl⟩
    have r1 : BRow W1 g (bs.set i true) := by rw [← hW1]; exact hr.set i true
    have kp1 : Keep g w W1 := by rw [← hW1]; exact (Keep.refl g w).setCell i _
    have hb1 : Below w0.heap.size w0 W1 := Below.keep hb kp1 hg (Nat.le_refl _)
    have l1 : (bs.set i true).length = n := by rw [List.length_set]; exact hl
    have hm1 : ∀ k, (bs.set i true).getD k false = true ↔ (bs.getD k false = true ∨ k = i) := fun k => set_mark (by omega) k
    obtain ⟨b0, off, x, e0, hlt, hxk, hok, c0, c1, c2, c3, c4, c5⟩ := h.at_ hi
    have hS : ∀ w', Below w0.heap.size w0 w' → w'.cell? ⟨b0, off + i * 6, none⟩ = some (.int .i64 x.op) ∧ w'.cell? ⟨b0, off + i * 6 + 1, none⟩ = some (.int .i64 x.a) ∧ w'.cell? ⟨b0, off + i * 6 + 2, none⟩ = some (.int .i64 x.b) := fun w' hb9 =>
      ⟨(hb9.cell (p := ⟨b0, off + i * 6, none⟩) hlt).trans c0, (hb9.cell (p := ⟨b0, off + i * 6 + 1, none⟩) hlt).trans c1, (hb9.cell (p := ⟨b0, off + i * 6 + 2, none⟩) hlt).trans c2⟩
    have hp := pi_at hxk
    have hah := hA i (by omega)
    rw [hp] at hah
    have AR := fun (w1 : World) => Lib.hid (ref_arity x.op w1)
    have IH := fun (t : Nat) (ht : t < i) (w1 : World) (bs1 : List Bool) (hb9 : Below w0.heap.size w0 w1) (r9 : BRow w1 g bs1) (l9 : bs1.length = n) => ih t ht (by omega) w1 bs1 g hb9 hg r9 l9
    subst e0
    obtain ⟨op, a, b, q⟩ := x
    have hp : (xs.map RI.pi).getD i PI.nil = ⟨op, a, b, (q.s, q.z, q.z')⟩ := hp
    have hah : ∀ j, Uses ⟨op, a, b, (q.s, q.z, q.z')⟩ j → 0 ≤ j ∧ j < (i : Int) := hah
    simp only at hS AR
    have HIH := Lib.hid IH
    have HS := Lib.hid hS
    have HW := Lib.hid hW1
    have HM := Lib.hid hm1
    have HP := Lib.hid hp
    have HBI := Lib.hid hbi
    have HLEN := Lib.hid hlen
    have R1 := Lib.hid r1
    have L1 := Lib.hid l1
    have hi2 : i < (xs.map RI.pi).length := by omega
    have HI2 := Lib.hid hi2
    clear IH hS hW1 hm1 hp hbi hlen r1 l1 hi2 ih hA h hr hl c0 c1 c2 c3 c4 c5 hxk hok
    rcases ar_cases op with ⟨cc, d⟩ | ⟨cc, d1, d2⟩ | ⟨cc, d1, d2⟩ | ⟨cc, d1, d2⟩
    case inl =>
      have hno : ∀ o : Int, ¬ Uses ⟨op, a, b, (q.s, q.z, q.z')⟩ o := fun o hu => by unfold Uses at hu; simp only [cc] at hu; omega
      rw [cc] at AR
      clear cc hah
      go_enter Tryz.func55, Tryz.ntmps55
      go_upto_region 2 with (fail)
      rw [HW.out]
      obtain ⟨e0, e1, e2⟩ := HS.out W1 hb1
      go_wp2_with fail
      with_reducible refine (AR _).out.mono ?_
      rintro _ _ ⟨rfl, rfl⟩
      go_wp2_with fail
      with_reducible refine (AR _).out.mono ?_
      rintro _ _ ⟨rfl, rfl⟩
      go_wp2_with fail
      go_end0
      exact ⟨rfl, _, L1.out, R1.out, dfs0 HI2.out HM.out (fun o hu => by rw [HP.out] at hu; exact hno o hu), kp1⟩
    case inr.inl =>
      obtain ⟨g1, g2⟩ := hah a (.inl ⟨by show 0 < arity op; omega, rfl⟩)
      obtain ⟨t, rfl⟩ : ∃ t : Nat, a = (t : Int) := ⟨a.toNat, by omega⟩
      have hti : t < i := by omega
      have hua : Uses ⟨op, (t : Int), b, (q.s, q.z, q.z')⟩ t := .inl ⟨by show 0 < arity op; omega, rfl⟩
      have hu9 : ∀ o : Nat, Uses ⟨op, (t : Int), b, (q.s, q.z, q.z')⟩ o → o = t := fun o hu => by
        unfold Uses at hu; simp only [cc] at hu; omega
      rw [cc] at AR
      have HUA := Lib.hid hua
      have HU9 := Lib.hid hu9
      clear cc hah hua hu9
      go_enter Tryz.func55, Tryz.ntmps55
      go_upto_region 2 with (fail)
      rw [HW.out]
      obtain ⟨e0, e1, e2⟩ := HS.out W1 hb1
      go_wp2_with fail
      with_reducible refine (AR _).out.mono ?_
      rintro _ _ ⟨rfl, rfl⟩
      go_wp2_with fail
      with_reducible refine (HIH.out t hti _ _ hb1 R1.out L1.out).mono ?_
      rintro _ w2 ⟨rfl, bs2, l2, r2, D2, kp2⟩
      have hb2 : Below w0.heap.size w0 w2 := Below.keep hb1 kp2 hg (Nat.le_refl _)
      have R2 := Lib.hid r2
      have L2 := Lib.hid l2
      have HD2 := Lib.hid D2
      clear r2 l2 D2 e0 e1 e2
      obtain ⟨e0, e1, e2⟩ := HS.out w2 hb2
      go_wp2_with fail
      with_reducible refine (AR _).out.mono ?_
      rintro _ _ ⟨rfl, rfl⟩
      go_wp2_with fail
      go_end0
      exact ⟨rfl, bs2, L2.out, R2.out, dfs1 HI2.out HBI.out HM.out hti (by rw [HP.out]; exact HUA.out) (fun o hu => by rw [HP.out] at hu; exact HU9.out o hu) HD2.out, keep_tr kp1 kp2⟩
    case inr.inr.inl =>
      obtain ⟨g1, g2⟩ := hah a (.inl ⟨by show 0 < arity op; omega, rfl⟩)
      obtain ⟨g3, g4⟩ := hah b (.inr ⟨by show 1 < arity op; omega, rfl⟩)
      obtain ⟨t, rfl⟩ : ∃ t : Nat, a = (t : Int) := ⟨a.toNat, by omega⟩
      obtain ⟨u, rfl⟩ : ∃ u : Nat, b = (u : Int) := ⟨b.toNat, by omega⟩
      have hti : t < i := by omega
      have hui : u < i := by omega
      have hua : Uses ⟨op, (t : Int), (u : Int), (q.s, q.z, q.z')⟩ t := .inl ⟨by show 0 < arity op; omega, rfl⟩
      have hub : Uses ⟨op, (t : Int), (u : Int), (q.s, q.z, q.z')⟩ u := .inr ⟨by show 1 < arity op; omega, rfl⟩
      have hu9 : ∀ o : Nat, Uses ⟨op, (t : Int), (u : Int), (q.s, q.z, q.z')⟩ o → o = t ∨ o = u := fun o hu => by
        unfold Uses at hu; simp only [cc] at hu; omega
      rw [cc] at AR
      have HUA := Lib.hid hua
      have HUB := Lib.hid hub
      have HU9 := Lib.hid hu9
      clear cc hah hua hub hu9
      go_enter Tryz.func55, Tryz.ntmps55
      go_upto_region 2 with (fail)
      rw [HW.out]
      obtain ⟨e0, e1, e2⟩ := HS.out W1 hb1
      go_wp2_with fail
      with_reducible refine (AR _).out.mono ?_
      rintro _ _ ⟨rfl, rfl⟩
      go_wp2_with fail
      with_reducible refine (HIH.out t hti _ _ hb1 R1.out L1.out).mono ?_
      rintro _ w2 ⟨rfl, bs2, l2, r2, D2, kp2⟩
      have hb2 : Below w0.heap.size w0 w2 := Below.keep hb1 kp2 hg (Nat.le_refl _)
      have R2 := Lib.hid r2
      have L2 := Lib.hid l2
      have HD2 := Lib.hid D2
      clear r2 l2 D2 e0 e1 e2
      obtain ⟨e0, e1, e2⟩ := HS.out w2 hb2
      go_wp2_with fail
      with_reducible refine (AR _).out.mono ?_
      rintro _ _ ⟨rfl, rfl⟩
      go_wp2_with fail
      with_reducible refine (HIH.out u hui _ _ hb2 R2.out L2.out).mono ?_
      rintro _ w3 ⟨rfl, bs3, l3, r3, D3, kp3⟩
      have R3 := Lib.hid r3
      have L3 := Lib.hid l3
      have HD3 := Lib.hid D3
      clear r3 l3 D3
      go_wp2_with fail
      go_end0
      exact ⟨rfl, bs3, L3.out, R3.out, dfs2 HI2.out HBI.out HM.out hti hui (by rw [HP.out]; exact HUA.out) (by rw [HP.out]; exact HUB.out) (fun o hu => by rw [HP.out] at hu; exact HU9.out o hu) HD2.out HD3.out, keep_tr kp1 (keep_tr kp2 kp3)⟩
    case inr.inr.inr =>
      have hno : ∀ o : Int, ¬ Uses ⟨op, a, b, (q.s, q.z, q.z')⟩ o := fun o hu => by unfold Uses at hu; simp only [cc] at hu; omega
      rw [cc] at AR
      clear cc hah
      go_enter Tryz.func55, Tryz.ntmps55
      go_upto_region 2 with (fail)
      rw [HW.out]
      obtain ⟨e0, e1, e2⟩ := HS.out W1 hb1
      go_wp2_with fail
      with_reducible refine (AR _).out.mono ?_
      rintro _ _ ⟨rfl, rfl⟩
      go_wp2_with fail
      with_reducible refine (AR _).out.mono ?_
      rintro _ _ ⟨rfl, rfl⟩
      go_wp2_with fail
      go_end0
      exact ⟨rfl, _, L1.out, R1.out, dfs0 HI2.out HM.out (fun o hu => by rw [HP.out] at hu; exact hno o hu), kp1⟩

set_option maxRecDepth 100000 in
set_option maxHeartbeats 4000000 in
theorem ref_Needs {w : World} {A B : Option Addr} {n c m d : Nat} {xs : List RI} {outs : List Int} (h : SlP w A n c xs) (ho : SlZ w B m d outs) (hA : Ahead (xs.map RI.pi)) (hn : n ≤ 65536) (hm : m ≤ 65536) :
    Calls Tryz.prog 30 #[.slice A n c, .slice B m d] w fun e w' => ∃ g bs, e = .returned (.slice (some ⟨g, 0, none⟩) n n) ∧ w.heap.size ≤ g ∧ bs.length = n ∧ BRow w' g bs ∧ IsNeed (xs.map RI.pi) outs (fun i => bs.getD i false) ∧ Below w.heap.size w w' := by
  have hlen : (xs.map RI.pi).length = n := by rw [List.length_map]; exact h.1.1
  have hol : outs.length = m := ho.1.1
  obtain ⟨w1, hmk, hr1, b1, s1⟩ := make_bools w n (by omega)
  have ND := ref_needs h hA hn
  have HND := Lib.hid ND
  have HR := Lib.hid hr1
  have HL := Lib.hid hlen
  have HOL := Lib.hid hol
  clear ND hr1 hlen hol s1
  go_enter Tryz.func30, Tryz.ntmps30
  go_wp2_with fail
  clear hmk
  go_loopw [12] (fun iv wr => ∃ (k : Nat) (bs : List Bool), k ≤ m ∧ iv = .int .i64 k ∧ Hid (bs.length = n) ∧ Hid (BRow wr w.heap.size bs) ∧ Hid (NeedInv (xs.map RI.pi) outs k (fun i => bs.getD i false)) ∧ Below w.heap.size w wr) (fun iv _ => m - mes iv)
  case atStart => exact ⟨0, _, by omega, rfl, Lib.hid (by simp), HR, Lib.hid (needInv_start _ _ (fun k => by rw [List.getD_eq_getElem?_getD, List.getElem?_replicate]; split <;> rfl)), b1⟩
  case round =>
    clear HR b1
    obtain ⟨k, bs, hk, rfl, HBL, HBR, HI, hb⟩ := hrel
    by_cases hk2 : k < m
    · obtain ⟨b0, off, o, rfl, hlt, hok, hoi, c0⟩ := (ho.below hb).at_ hk2
      have hog : outs.getD k 0 = o := by rw [List.getD_eq_getElem?_getD, hok]; rfl
      have HG := Lib.hid hog
      clear hog hok hoi
      by_cases hin : 0 ≤ o ∧ o < (n : Int)
      · obtain ⟨h3, h4⟩ := hin
        obtain ⟨t, rfl⟩ : ∃ t : Nat, o = (t : Int) := ⟨o.toNat, by omega⟩
        have htn : t < n := by omega
        go_wp2_with fail
        with_reducible refine (HND.out t htn _ _ _ hb (Nat.le_refl _) HBR.out HBL.out).mono ?_
        rintro _ w2 ⟨rfl, bs2, l2, r2, D2, kp2⟩
        have hb2 : Below w.heap.size w w2 := Below.keep hb kp2 (Nat.le_refl _) (Nat.le_refl _)
        have R2 := Lib.hid r2
        have L2 := Lib.hid l2
        have HD2 := Lib.hid D2
        clear r2 l2 D2
        go_wp2_with fail
        go_roundw
        case rel => exact ⟨k + 1, bs2, by omega, by go_num, L2, R2, Lib.hid (needInv_in (by have := HOL.out; omega) HI.out HG.out HD2.out), hb2⟩
        case measure => simp [mes, intOf]; omega
      · have hout : o < 0 ∨ (0 ≤ o ∧ (n : Int) ≤ o) := by omega
        rcases hout with hout | ⟨hout, hout2⟩
        all_goals
          go_wp2_with fail
          go_roundw
          case rel => exact ⟨k + 1, bs, by omega, by go_num, HBL, HBR, Lib.hid (needInv_out (by have := HOL.out; omega) HI.out (by rw [HG.out, HL.out]; omega)), hb⟩
          case measure => simp [mes, intOf]; omega
    · obtain rfl : k = m := by omega
      go_wp2_with fail
      go_ret
      have hI := HI.out
      rw [← HOL.out] at hI
      exact ⟨w.heap.size, bs, rfl, Nat.le_refl _, HBL.out, HBR.out, needInv_end hI, hb⟩

end Go.Proofs.YtibgpeaplmcogaaGreatDoor
