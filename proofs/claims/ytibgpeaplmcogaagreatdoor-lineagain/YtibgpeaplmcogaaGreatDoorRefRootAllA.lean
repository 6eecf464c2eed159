/-
  Where the listed variables read as the row says, the cells of the variable names hold the names of the Ops. Condition: the row's own premise on the listed variables.
-/
import Derived.Test.YtibgpeaplmcogaaGreatDoorRefShiftAllA
import Derived.Test.YtibgpeaplmcogaaGreatDoorLnTyAllA
import Derived.Test.YtibgpeaplmcogaaGreatDoorGcdLawsAllA
import Derived.Deep.RegionHeld3
import Derived.Test.YtibgpeaplmcogaaGreatDoorLnNdAllA
import Derived.Test.YtibgpeaplmcogaaGreatDoorRows
import Derived.LaidMore
import Derived.Lay
namespace Go.Proofs.YtibgpeaplmcogaaGreatDoor
set_option maxRecDepth 100000
open Go.RowKit
set_option linter.unusedVariables false
set_option linter.unusedSimpArgs false

end Go.Proofs.YtibgpeaplmcogaaGreatDoor

namespace Go.Proofs.YtibgpeaplmcogaaGreatDoor
set_option maxRecDepth 100000
open Go.RowKit
set_option linter.unusedVariables false
set_option linter.unusedSimpArgs false

end Go.Proofs.YtibgpeaplmcogaaGreatDoor

namespace Go.Proofs.YtibgpeaplmcogaaGreatDoor
set_option maxRecDepth 100000
open Go.RowKit
set_option linter.unusedVariables false
set_option linter.unusedSimpArgs false

end Go.Proofs.YtibgpeaplmcogaaGreatDoor

namespace Go.Proofs.YtibgpeaplmcogaaGreatDoor
set_option maxRecDepth 100000
open Go.RowKit
set_option linter.unusedVariables false
set_option linter.unusedSimpArgs false

end Go.Proofs.YtibgpeaplmcogaaGreatDoor

namespace Go.Proofs.YtibgpeaplmcogaaGreatDoor
set_option maxRecDepth 100000
open Go.RowKit
set_option linter.unusedVariables false
set_option linter.unusedSimpArgs false

/-! ### plain -/
/-! ### the root of a rounded square -/
/-! ### the walks -/
end Go.Proofs.YtibgpeaplmcogaaGreatDoor

namespace Go.Proofs.YtibgpeaplmcogaaGreatDoor
set_option maxRecDepth 100000
open Go.RowKit
set_option linter.unusedVariables false
set_option linter.unusedSimpArgs false

end Go.Proofs.YtibgpeaplmcogaaGreatDoor

namespace Go.Proofs.YtibgpeaplmcogaaGreatDoor
set_option maxRecDepth 100000
open Go.RowKit
set_option linter.unusedVariables false
set_option linter.unusedSimpArgs false

end Go.Proofs.YtibgpeaplmcogaaGreatDoor

namespace Go.Proofs.YtibgpeaplmcogaaGreatDoor
set_option maxRecDepth 100000
open Go.RowKit
set_option linter.unusedVariables false
set_option linter.unusedSimpArgs false

/-- the number 1 in units of the least double -/
@[irreducible] def OO : Nat := 2 ^ K74
/-! ### what layers 10 and 13 do, plainly -/
/-! ### infinities stand beyond all others -/
/-! ### the nearest integer -/
/-! ### times powers of 2 -/
end Go.Proofs.YtibgpeaplmcogaaGreatDoor

namespace Go.Proofs.YtibgpeaplmcogaaGreatDoor
set_option maxRecDepth 100000
open Go.RowKit
set_option linter.unusedVariables false
set_option linter.unusedSimpArgs false

/-- what a double says, with its sign -/
def iv (b : Nat) : Int := sI (ng b) (vl b)
/-! ### bounds -/
/-! ### the exponential's sum: each step leaves it without a sign, at most twice the term that it adds -/
@[irreducible] def HALF : Nat := 4602678819172646912
end Go.Proofs.YtibgpeaplmcogaaGreatDoor

namespace Go.Proofs.YtibgpeaplmcogaaGreatDoor
set_option maxRecDepth 100000
open Go.RowKit
set_option linter.unusedVariables false
set_option linter.unusedSimpArgs false

@[irreducible] def PP : Nat := 4609176140021203710
@[irreducible] def LL : Nat := 4604418534311723008
@[irreducible] def ll : Nat := 4461442080421002358
/-! ### the rest after the multiple of the logarithm of 2 is taken away is at most a half -/
@[irreducible] def HH : Nat := 2 ^ (K74 - 53)
@[irreducible] def W746 : Nat := 4649773101213548544
@[irreducible] def W1077 : Nat := 4652451511538810880
@[irreducible] def W716 : Nat := 4601552919265804288
@[irreducible] def WTINY : Nat := 4517110426252607488
/-! ### the whole -/
end Go.Proofs.YtibgpeaplmcogaaGreatDoor

namespace Go.Proofs.YtibgpeaplmcogaaGreatDoor
set_option maxRecDepth 100000
open Go.RowKit
set_option linter.unusedVariables false
set_option linter.unusedSimpArgs false

@[irreducible] def ONE : Nat := 4607182418800017408
@[irreducible] def TWO : Nat := 4611686018427387904
@[irreducible] def RR : Nat := 4609047870845172685
@[irreducible] def W1116 : Nat := 4604367669032910848
@[irreducible] def W32 : Nat := 4609434218613702656
@[irreducible] def W516 : Nat := 4599301119452119040
@[irreducible] def W14 : Nat := 4598175219545276416
@[irreducible] def W116 : Nat := 4589168020290535424
@[irreducible] def W132 : Nat := 4584664420663164928
@[irreducible] def W164 : Nat := 4580160821035794432
@[irreducible] def W38 : Nat := 4600427019358961664
@[irreducible] def W3364 : Nat := 4602819556661002240
@[irreducible] def W3464 : Nat := 4602960294149357568
@[irreducible] def W4464 : Nat := 4604367669032910848
@[irreducible] def W53 : Nat := 4368491638549381120
@[irreducible] def W55 : Nat := 4359484439294640128
@[irreducible] def W4 : Nat := 4616189618054758400
/-! ### the sum over powers of z -/
/-! ### the logarithm near 1 -/
/-! ### the whole -/
end Go.Proofs.YtibgpeaplmcogaaGreatDoor

namespace Go.Proofs.YtibgpeaplmcogaaGreatDoor
set_option maxRecDepth 100000
open Go.RowKit
set_option linter.unusedVariables false
set_option linter.unusedSimpArgs false

/-! ### tables and sums -/
/-- the factorials of 0 to 13 -/
def facL : List Int := [1, 1, 2, 6, 24, 120, 720, 5040, 40320, 362880, 3628800, 39916800, 479001600, 6227020800]
/-! ### constants -/
/-! ### times powers of 2 -/
end Go.Proofs.YtibgpeaplmcogaaGreatDoor

namespace Go.Proofs.YtibgpeaplmcogaaGreatDoor
set_option maxRecDepth 100000
open Go.RowKit
set_option linter.unusedVariables false
set_option linter.unusedSimpArgs false

end Go.Proofs.YtibgpeaplmcogaaGreatDoor

namespace Go.Proofs.YtibgpeaplmcogaaGreatDoor
set_option maxRecDepth 100000
open Go.RowKit
set_option linter.unusedVariables false
set_option linter.unusedSimpArgs false

/-- the variable factorials holds the factorials -/
def Fac (w : World) : Prop := 1 < w.heap.size ∧ ∀ r, r < 14 → w.cell? ⟨1, r, none⟩ = some (.int .i64 (facL.getD r 0))
theorem Fac.below {w w' : World} (h : Fac w) (b : Below w.heap.size w w') : Fac w' :=
  ⟨Nat.lt_of_lt_of_le h.1 b.size, fun r hr => (b.cell (p := ⟨1, r, none⟩) h.1).trans (h.2 r hr)⟩
end Go.Proofs.YtibgpeaplmcogaaGreatDoor

namespace Go.Proofs.YtibgpeaplmcogaaGreatDoor
set_option maxRecDepth 100000
open Go.RowKit
set_option linter.unusedVariables false
set_option linter.unusedSimpArgs false

end Go.Proofs.YtibgpeaplmcogaaGreatDoor

namespace Go.Proofs.YtibgpeaplmcogaaGreatDoor
set_option maxRecDepth 100000
open Go.RowKit
set_option linter.unusedVariables false
set_option linter.unusedSimpArgs false

end Go.Proofs.YtibgpeaplmcogaaGreatDoor

namespace Go.Proofs.YtibgpeaplmcogaaGreatDoor
set_option maxRecDepth 100000
open Go.RowKit
set_option linter.unusedVariables false
set_option linter.unusedSimpArgs false

end Go.Proofs.YtibgpeaplmcogaaGreatDoor

namespace Go.Proofs.YtibgpeaplmcogaaGreatDoor
set_option maxRecDepth 100000
open Go.RowKit
set_option linter.unusedVariables false
set_option linter.unusedSimpArgs false

end Go.Proofs.YtibgpeaplmcogaaGreatDoor

namespace Go.Proofs.YtibgpeaplmcogaaGreatDoor
set_option maxRecDepth 100000
open Go.RowKit
set_option linter.unusedVariables false
set_option linter.unusedSimpArgs false

end Go.Proofs.YtibgpeaplmcogaaGreatDoor

namespace Go.Proofs.YtibgpeaplmcogaaGreatDoor
set_option maxRecDepth 100000
open Go.RowKit
set_option linter.unusedVariables false
set_option linter.unusedSimpArgs false

end Go.Proofs.YtibgpeaplmcogaaGreatDoor

namespace Go.Proofs.YtibgpeaplmcogaaGreatDoor
set_option maxRecDepth 100000
open Go.RowKit
set_option linter.unusedVariables false
set_option linter.unusedSimpArgs false

end Go.Proofs.YtibgpeaplmcogaaGreatDoor

namespace Go.Proofs.YtibgpeaplmcogaaGreatDoor
set_option maxRecDepth 100000
open Go.RowKit
set_option linter.unusedVariables false
set_option linter.unusedSimpArgs false

end Go.Proofs.YtibgpeaplmcogaaGreatDoor

namespace Go.Proofs.YtibgpeaplmcogaaGreatDoor
set_option maxRecDepth 100000
open Go.RowKit
set_option linter.unusedVariables false
set_option linter.unusedSimpArgs false

/-- naturals as words -/
def nts (v : List Nat) : List Int := v.map fun (n : Nat) => (n : Int)
/-- all are words -/
def AllW (v : List Nat) : Prop := ∀ x ∈ v, x < 18446744073709551616
theorem AllW.at_ {v : List Nat} (h : AllW v) (j : Nat) : v.getD j 0 < 18446744073709551616 := by
  rw [List.getD_eq_getElem?_getD]
  cases e : v[j]? with
  | none => show 0 < _; omega
  | some x => exact h x (List.mem_of_getElem? e)
theorem AllW.snoc {v : List Nat} {x : Nat} (h : AllW v) (hx : x < 18446744073709551616) : AllW (v ++ [x]) := by
  intro y hy
  rcases List.mem_append.1 hy with hy | hy
  · exact h y hy
  · rw [List.mem_singleton.1 hy]; exact hx
theorem AllW.us {v : List Nat} (h : AllW v) : ∀ x ∈ nts v, U x := by
  intro x hx
  unfold nts at hx
  obtain ⟨y, hy, rfl⟩ := List.mem_map.1 hx
  have := h y hy
  exact ⟨by omega, by omega⟩
end Go.Proofs.YtibgpeaplmcogaaGreatDoor

namespace Go.Proofs.YtibgpeaplmcogaaGreatDoor
set_option maxRecDepth 100000
open Go.RowKit
set_option linter.unusedVariables false
set_option linter.unusedSimpArgs false

end Go.Proofs.YtibgpeaplmcogaaGreatDoor

namespace Go.Proofs.YtibgpeaplmcogaaGreatDoor
set_option maxRecDepth 100000
open Go.RowKit
set_option linter.unusedVariables false
set_option linter.unusedSimpArgs false

def longB (k : Int) (q : RQ) : Bool := decide (k < q.n ∨ k < q.n')
def anyI (xs : List RI) : Bool := xs.any fun x => longB 8 x.q
def manyB (xs : List RI) : Bool := anyI xs || decide (300 < xs.length)
theorem anyI_yes {xs : List RI} {x : RI} (hx : x ∈ xs) (h : longB 8 x.q = true) : anyI xs = true := List.any_eq_true.2 ⟨x, hx, h⟩
theorem anyI_no {xs : List RI} (h : ∀ (i : Nat) (x : RI), xs[i]? = some x → longB 8 x.q = false) : anyI xs = false := by
  unfold anyI
  rw [Bool.eq_false_iff]
  intro hh
  obtain ⟨x, hx, h1⟩ := List.any_eq_true.1 hh
  obtain ⟨j, hj⟩ := List.mem_iff_getElem?.1 hx
  rw [h j x hj] at h1
  cases h1
theorem anyI_short {xs : List RI} (h : anyI xs = false) : Shrt 8 xs := by
  intro x hx
  have h1 : ¬ longB 8 x.q = true := fun hh => by rw [anyI_yes hx hh] at h; cases h
  unfold longB at h1
  rw [decide_eq_true_eq] at h1
  omega
set_option maxHeartbeats 2000000 in
theorem law_many {w : World} {A : Option Addr} {n c : Nat} {xs : List RI} (h : SlP w A n c xs) :
    Calls Tryz.prog 9 #[.slice A n c] w (RetBl (manyB xs) w) := by
  have hlen : xs.length = n := h.1.1
  have hmx : n ≤ 9223372036854775807 := by have h1 := h.1.2.1; have h2 := h.1.2.2.1; unfold maxLen at h2; omega
  have HL := Lib.hid hlen
  clear hlen
  go_enter Tryz.func9, Tryz.ntmps9
  go_wp2_with fail
  go_loopw [6] (fun iv wr => ∃ j : Nat, j ≤ n ∧ iv = .int .i64 j ∧ Below w.heap.size w wr ∧ Hid (∀ (i : Nat) x, i < j → xs[i]? = some x → longB 8 x.q = false)) (fun iv _ => n - mes iv)
  case atStart => exact ⟨0, by omega, rfl, Below.refl _ _, Lib.hid (fun i x hi => absurd hi (by omega))⟩
  case round =>
    obtain ⟨j, hj, rfl, hb, HF⟩ := hrel
    by_cases hj2 : j < n
    · obtain ⟨b0, off, x, rfl, hlt, hxk, hok, c0, c1, c2, c3, c4, c5⟩ := (h.below hb).at_ hj2
      have LG := plain_long (w := wr) (s := x.q.s) (A := x.q.A) (A' := x.q.A') (n := x.q.n) (n' := x.q.n') (c := x.q.c) (c' := x.q.c') 8
      obtain ⟨r, hr⟩ : ∃ r, longB 8 x.q = r := ⟨_, rfl⟩
      have LG2 : Calls Tryz.prog 43 #[.agg #[.bool x.q.s, .slice x.q.A x.q.n x.q.c, .slice x.q.A' x.q.n' x.q.c'], .int .i64 8] wr (RetBl (longB 8 x.q) wr) := LG
      rw [hr] at LG2
      have HK := Lib.hid LG2
      have HR := Lib.hid hr
      clear LG LG2 hok hr
      cases r
      case true =>
        have hyes := anyI_yes (mem_at hxk) HR.out
        clear HF hxk
        go_wp2_with fail
        with_reducible refine HK.out.mono ?_
        rintro _ w2 ⟨rfl, b2⟩
        go_wp2_with fail
        go_ret
        exact ⟨by unfold manyB; rw [hyes]; rfl, bb hb b2⟩
      case false =>
        go_wp2_with fail
        with_reducible refine HK.out.mono ?_
        rintro _ w2 ⟨rfl, b2⟩
        go_wp2_with fail
        go_roundw
        case rel => exact ⟨j + 1, by omega, by go_num, bb hb b2, Lib.hid (fun i y hi hy => by
          rcases Nat.lt_or_eq_of_le (Nat.le_of_lt_succ hi) with h9 | h9
          · exact HF.out i y h9 hy
          · rw [h9, hxk] at hy; cases hy; exact HR.out)⟩
        case measure => simp [mes, intOf]; omega
    · obtain rfl : j = n := by omega
      have hno := anyI_no (xs := xs) (fun i x hx => HF.out i x (by
        have := HL.out
        rcases Nat.lt_or_ge i xs.length with h9 | h9
        · omega
        · rw [List.getElem?_eq_none h9] at hx; cases hx) hx)
      have hm : manyB xs = decide (300 < j) := by unfold manyB; rw [hno, Bool.false_or, HL.out]
      rcases Nat.lt_or_ge 300 j with h9 | h9
      · rw [decide_eq_true h9] at hm
        go_wp2_with fail
        go_ret
        exact ⟨by rw [hm]; simp; omega, hb⟩
      · rw [decide_eq_false (by omega)] at hm
        go_wp2_with fail
        go_ret
        exact ⟨by rw [hm]; simp; omega, hb⟩

end Go.Proofs.YtibgpeaplmcogaaGreatDoor

namespace Go.Proofs.YtibgpeaplmcogaaGreatDoor
set_option maxRecDepth 100000
open Go.RowKit
set_option linter.unusedVariables false
set_option linter.unusedSimpArgs false

theorem SlC.new {k : Nat} {V : Type} {cells : V → List Value} {ok : World → V → Prop} (w : World) (arr : Array Value) (t : TypeId) (xs : List V) (hl : ∀ x ∈ xs, (cells x).length = k) (he : arr.toList = xs.flatMap cells) (hok : ∀ x ∈ xs, ok (w.alloc (.cells arr t)) x) (hn : xs.length ≤ maxLen) :
    SlC k cells ok (w.alloc (.cells arr t)) (some ⟨w.heap.size, 0, none⟩) xs.length xs.length xs := by
  refine ⟨⟨rfl, Nat.le_refl _, hn, fun x hx => ⟨hok x hx, hl x hx⟩⟩, fun h0 => ⟨w.heap.size, 0, rfl, by simp, fun j hj i hi => ?_⟩⟩
  rw [← flat_at xs hl j i hi, ← he, cell_of_row _ w.heap.size _ arr t (0, 0) (heap_alloc_new w _), Nat.zero_add]
  simp
theorem SlC.take {k : Nat} {V : Type} {cells : V → List Value} {ok : World → V → Prop} {w : World} {A : Option Addr} {n c m : Nat} {xs : List V} (h : SlC k cells ok w A n c xs) (hm : m ≤ n) : SlC k cells ok w A m c (xs.take m) := by
  refine ⟨⟨by rw [List.length_take, h.1.1]; omega, by have := h.1.2.1; omega, h.1.2.2.1, fun x hx => h.1.2.2.2 x (List.mem_of_mem_take hx)⟩, fun h0 => ?_⟩
  obtain ⟨b, off, e, hlt, hc⟩ := h.2 (by omega)
  refine ⟨b, off, e, hlt, fun j hj i hi => ?_⟩
  rw [hc j (by omega) i hi, List.getElem?_take, if_pos hj]
def ins0 (op : Int) : RI := ⟨op, 0, 0, ⟨false, none, 0, 0, [], none, 0, 0, []⟩⟩
theorem ins0_ok (w : World) {op : Int} (h : I64 op) : (ins0 op).ok w := ⟨h, by unfold I64; simp [ins0], by unfold I64; simp [ins0], Sl.nil _ _ _, Sl.nil _ _ _, by unfold maxLen; simp [ins0], by unfold maxLen; simp [ins0]⟩
theorem ins0_sh {l : List RI} (h : ∀ x ∈ l, ∃ op, x = ins0 op) {N : Nat} : Shrt N l := by
  intro x hx
  obtain ⟨op, rfl⟩ := h x hx
  exact ⟨Nat.zero_le _, Nat.zero_le _⟩
def C3 : Array Value := #[.int .i64 1, .int .i64 0, .int .i64 0, .bool false, .slice none 0 0, .slice none 0 0, .int .i64 6, .int .i64 0, .int .i64 0, .bool false, .slice none 0 0, .slice none 0 0, .int .i64 7, .int .i64 0, .int .i64 0, .bool false, .slice none 0 0, .slice none 0 0]
end Go.Proofs.YtibgpeaplmcogaaGreatDoor

namespace Go.Proofs.YtibgpeaplmcogaaGreatDoor
set_option maxRecDepth 100000
open Go.RowKit Go.Maps
set_option linter.unusedVariables false
set_option linter.unusedSimpArgs false

/-- the names of the Ops, by their bytes -/
def nameL : List (List UInt8) := [[], [105, 110, 112, 117, 116], [99, 111, 110, 115, 116], [110, 101, 103], [97, 100, 100], [115, 117, 98], [109, 117, 108], [100, 105, 118], [115, 113, 114, 116], [101, 120, 112], [108, 111, 103]]
def nmS (r : Nat) : ByteArray := ⟨(nameL.getD r []).toArray⟩
/-- the variable names holds the names -/
def Nam (w : World) : Prop := 0 < w.heap.size ∧ ∀ r, r < 11 → w.cell? ⟨0, r, none⟩ = some (.string (nmS r))
theorem Nam.below {w w' : World} (h : Nam w) (b : Below w.heap.size w w') : Nam w' :=
  ⟨Nat.lt_of_lt_of_le h.1 b.size, fun r hr => (b.cell (p := ⟨0, r, none⟩) h.1).trans (h.2 r hr)⟩
theorem line_word {r : Nat} (hr : r < 11) (w : World) (hN : Nam w) :
    Calls Tryz.prog 20 #[.int .i64 (r : Int)] w fun e w' => e = .returned (.string (nmS r)) ∧ w = w' := by
  have hc := hN.2 r hr
  have BL := Lib.hid (line_below (r : Int) 11 w)
  have hd : decide (0 ≤ (r : Int) ∧ (r : Int) < 11) = true := decide_eq_true (by omega)
  rw [hd] at BL
  generalize nmS r = s at *
  clear hd hN
  go_enter Tryz.func20, Tryz.ntmps20
  go_wp2_with fail
  with_reducible refine BL.out.mono ?_
  rintro _ _ ⟨rfl, rfl⟩
  go_wp2_with fail
  go_ret
  exact ⟨rfl, rfl⟩
theorem small0 (w : World) : Calls Tryz.prog 197 #[.int .i64 0] w fun e w' => e = .returned (.string ⟨#[48]⟩) ∧ w = w' := by
  go_enter Tryz.func197, Tryz.ntmps197
  go_wp2
  go_ret
  exact ⟨rfl, rfl⟩
theorem format0 (w : World) : Calls Tryz.prog 129 #[.int .i64 0, .int .i64 10] w fun e w' => e = .returned (.string ⟨#[48]⟩) ∧ w = w' := by
  have H := Lib.hid (small0 w)
  go_enter Tryz.func129, Tryz.ntmps129
  go_wp2_with fail
  with_reducible refine H.out.mono ?_
  rintro _ _ ⟨rfl, rfl⟩
  go_wp2_with fail
  go_ret
  exact ⟨rfl, rfl⟩
theorem itoa0 (w : World) : Calls Tryz.prog 74 #[.int .i64 0] w fun e w' => e = .returned (.string ⟨#[48]⟩) ∧ w = w' := by
  have H := Lib.hid (format0 w)
  go_enter Tryz.func74, Tryz.ntmps74
  go_wp2_with fail
  with_reducible refine H.out.mono ?_
  rintro _ _ ⟨rfl, rfl⟩
  go_wp2_with fail
  go_ret
  exact ⟨rfl, rfl⟩
theorem sc_itoa0 (w : World) : Calls Tryz.prog 48 #[.int .i64 0] w fun e w' => e = .returned (.string ⟨#[48]⟩) ∧ w = w' := by
  have H := Lib.hid (itoa0 w)
  go_enter Tryz.func48, Tryz.ntmps48
  go_wp2_with fail
  with_reducible refine H.out.mono ?_
  rintro _ _ ⟨rfl, rfl⟩
  go_wp2_with fail
  go_ret
  exact ⟨rfl, rfl⟩
def neg0 : ByteArray := ⟨#[110, 101, 103, 32, 48]⟩
theorem neg0_eq : nmS 3 ++ ((⟨#[32]⟩ : ByteArray) ++ ⟨#[48]⟩) = neg0 := by decide +kernel

set_option maxRecDepth 100000 in
set_option maxHeartbeats 2000000 in
theorem show_neg0 (w : World) (hN : Nam w) :
    Calls Tryz.prog 24 #[.agg #[.int .i64 3, .int .i64 0, .int .i64 0, .bool false, .slice none 0 0, .slice none 0 0]] w fun e w' => e = .returned (.string neg0) ∧ Below w.heap.size w w' := by
  obtain ⟨V, hW, Bx, hb0⟩ := box0 27 w #[.int .i64 3, .int .i64 0, .int .i64 0, .bool false, .slice none 0 0, .slice none 0 0]
  have AR := fun (w1 : World) => Lib.hid (line_arity 3 w1)
  have ear : arity 3 = 1 := by decide
  rw [ear] at AR
  have WD := line_word (r := 3) (by omega) V (hN.below hb0)
  rw [show ((3 : Nat) : Int) = 3 from rfl] at WD
  have OP := line_operands (op := 3) (a := 0) (b := 0) (q := ⟨false, none, 0, 0, [], none, 0, 0, []⟩) (by unfold I64; omega) (by unfold I64; omega) V
  have eop : opsI 3 0 0 = [0] := by decide
  rw [eop] at OP
  have he := neg0_eq
  have hsz : (nmS 3).size = 3 := rfl
  generalize nmS 3 = s3 at *
  have k := Bx.six.1
  have HWD := Lib.hid WD
  have HOP := Lib.hid OP
  have HW := Lib.hid hW
  have HE := Lib.hid he
  clear WD OP hW Bx he
  go_enter Tryz.func24, Tryz.ntmps24
  go_wp2_with fail
  with_reducible refine (AR _).out.mono ?_
  rintro _ _ ⟨rfl, rfl⟩
  go_wp2_with fail
  rw [HW.out]
  obtain ⟨k0, k1, k2, k3, k4, k5⟩ := k
  with_reducible refine HWD.out.mono ?_
  rintro _ _ ⟨rfl, rfl⟩
  go_wp2_with fail
  with_reducible refine HOP.out.mono ?_
  rintro _ w2 ⟨A2, n2, c2, rfl, z2, b2⟩
  obtain rfl : n2 = 1 := z2.1.1.symm
  have HZ := Lib.hid z2
  clear z2 HOP HWD AR k0 k1 k2 k3 k4 k5
  go_wp2_with fail
  go_loopw [3, 41] (fun tv iv wr => ∃ s : ByteArray, tv = .string s ∧ Below w2.heap.size w2 wr ∧ ((iv = .int .i64 0 ∧ s = s3) ∨ (iv = .int .i64 1 ∧ s = neg0))) (fun _ iv _ => 1 - mes iv)
  case atStart => exact ⟨_, rfl, Below.refl _ _, .inl ⟨rfl, rfl⟩⟩
  case round =>
    obtain ⟨s, rfl, hb, ⟨rfl, rfl⟩ | ⟨rfl, rfl⟩⟩ := hrel
    · obtain ⟨b0, off, x, rfl, hlt, hx, hoi, c0⟩ := (HZ.out.below hb).at_ (j := 0) (by omega)
      obtain rfl : x = 0 := by simpa using hx.symm
      have c0' : wr.cell? ⟨b0, off, none⟩ = some (.int .i64 0) := c0
      have IT := Lib.hid (sc_itoa0 wr)
      clear c0 hx hoi
      go_wp2_with fail
      with_reducible refine IT.out.mono ?_
      rintro _ _ ⟨rfl, rfl⟩
      go_wp2_with fail
      go_roundw
      case rel => exact ⟨_, rfl, hb, .inr ⟨by go_num, HE.out⟩⟩
      case measure => simp [mes, intOf]
    · go_wp2_with fail
      go_ret
      exact ⟨rfl, bb hb0 (bb b2 hb)⟩

def M3 : List RI := [ins0 1, ins0 3, ins0 6]
def D3 : Array Value := #[.int .i64 1, .int .i64 0, .int .i64 0, .bool false, .slice none 0 0, .slice none 0 0, .int .i64 3, .int .i64 0, .int .i64 0, .bool false, .slice none 0 0, .slice none 0 0, .int .i64 6, .int .i64 0, .int .i64 0, .bool false, .slice none 0 0, .slice none 0 0]
theorem M3_new (w : World) : SlP (w.alloc (.cells D3 27)) (some ⟨w.heap.size, 0, none⟩) 3 3 M3 := by
  refine SlC.new w D3 27 M3 (fun x _ => rfl) rfl (fun x hx => ?_) (by unfold maxLen; simp [M3])
  unfold M3 at hx
  simp only [List.mem_cons, List.not_mem_nil, or_false] at hx
  rcases hx with rfl | rfl | rfl <;> exact ins0_ok _ (by unfold I64; omega)
theorem M3_sh (N : Nat) : Shrt N M3 := ins0_sh (fun x hx => by
  unfold M3 at hx
  simp only [List.mem_cons, List.not_mem_nil, or_false] at hx
  rcases hx with rfl | rfl | rfl <;> exact ⟨_, rfl⟩)
theorem M3_prog : IsProg vq nq (M3.map RI.pi) := by
  refine ⟨fun i hi => ?_, by decide⟩
  have hi' : i < 3 := hi
  have h3 : i = 0 ∨ i = 1 ∨ i = 2 := by omega
  rcases h3 with rfl | rfl | rfl
  · show fits vq nq ⟨1, 0, 0, (false, [], [])⟩ 0
    simp [fits, nq]
  · show fits vq nq ⟨3, 0, 0, (false, [], [])⟩ 1
    simp [fits, nq, arity]
  · show fits vq nq ⟨6, 0, 0, (false, [], [])⟩ 2
    simp [fits, nq, arity]
theorem M3_trim {mk : Nat → Bool} (h : IsNeed (M3.map RI.pi) [2, 9] mk) : trimL (M3.map RI.pi) mk = [⟨1, 0, 0, (false, [], [])⟩, ⟨6, 0, 0, (false, [], [])⟩] ∧ trimO (M3.map RI.pi) mk [2, 9] = [1, -1] := by
  have h2 : mk 2 = true := (h 2 (by decide)).2 (.inl (by decide))
  have h1 : mk 1 = false := by
    rw [Bool.eq_false_iff]
    intro hh
    rcases (h 1 (by decide)).1 hh with g | ⟨k, k1, k2, k3, k4⟩
    · exact absurd g (by decide)
    · have k2' : k < 3 := k2
      obtain rfl : k = 2 := by omega
      have k5 : Uses ⟨6, 0, 0, (false, [], [])⟩ 1 := k4
      unfold Uses at k5
      simp [arity] at k5
  have h0 : mk 0 = true := (h 0 (by decide)).2 (.inr ⟨2, by omega, by decide, h2, by
    show Uses ⟨6, 0, 0, (false, [], [])⟩ 0
    unfold Uses
    simp [arity]⟩)
  constructor
  · show trimTo _ mk 3 = _
    simp only [trimTo, h0, h1, h2, if_true, if_false, Bool.false_eq_true]
    show [ren mk ⟨1, 0, 0, (false, [], [])⟩] ++ [ren mk ⟨6, 0, 0, (false, [], [])⟩] = _
    simp [ren, arity, cnt]
  · show [newAt 3 mk 2, newAt 3 mk 9] = _
    simp [newAt, cnt, h0, h1]

set_option maxRecDepth 100000 in
set_option maxHeartbeats 4000000 in
theorem same15 (w : World) (hN : Nam w) : Calls Tryz.prog 10 #[] w (RetBl true w) := by
  obtain ⟨V1, e1⟩ : ∃ V1, w.alloc (.cells #[.int .i64 1, .int .i64 0, .int .i64 0, .bool false, .slice none 0 0, .slice none 0 0, .int .i64 3, .int .i64 0, .int .i64 0, .bool false, .slice none 0 0, .slice none 0 0, .int .i64 6, .int .i64 0, .int .i64 0, .bool false, .slice none 0 0, .slice none 0 0] 27) = V1 := ⟨_, rfl⟩
  have p1 : SlP V1 (some ⟨w.heap.size, 0, none⟩) 3 3 M3 := by rw [← e1]; exact M3_new w
  have b1 : Below w.heap.size w V1 := by rw [← e1]; exact below_alloc _ _
  have s1 : V1.heap.size = w.heap.size + 1 := by rw [← e1]; simp
  obtain ⟨V2, e2⟩ : ∃ V2, V1.alloc (.cells #[.int .i64 2, .int .i64 9] 3) = V2 := ⟨_, rfl⟩
  have b2 : Below V1.heap.size V1 V2 := by rw [← e2]; exact below_alloc _ _
  have z2 : SlZ V2 (some ⟨w.heap.size + 1, 0, none⟩) 2 2 [2, 9] := by
    have h9 := two_new w V2 (w.heap.size + 1) 2 9 3 (by unfold I64; omega) (by unfold I64; omega) (by rw [← e2, ← s1]; exact Box.new V1 _ _) 2 (by omega)
    exact h9
  rw [← e1] at e2
  have TR := line_Trim (p1.below b2) (M3_sh 8) (by omega) z2 (by omega) (by omega) M3_prog
  have RT := fun (w1 : World) (hb : Below V2.heap.size V2 w1) => line_right ((p1.below b2).below hb) (M3_sh 8) (by omega) (by omega)
  rw [(progB_iff _).2 M3_prog] at RT
  have SH := fun (w1 : World) (hb : Below V2.heap.size V2 w1) => show_neg0 w1 (hN.below (bb b1 (bb b2 hb)))
  have HTR := Lib.hid TR
  have HRT := Lib.hid RT
  have HSH := Lib.hid SH
  have HV := Lib.hid e2
  have HP := Lib.hid p1
  clear TR RT SH e2 e1 p1 z2 s1
  go_enter Tryz.func10, Tryz.ntmps10
  go_wp2_with fail
  rw [HV.out]
  with_reducible refine HTR.out.mono ?_
  rintro _ w3 ⟨mk, hnd, A1, n1, c1, ys, A2, n2, c2, rfl, p3, ht, _, z3, b3⟩
  obtain ⟨t1, t2⟩ := M3_trim hnd
  rw [t1] at ht
  rw [t2] at z3
  have hn1 : n1 = 2 := by
    have h9 := congrArg List.length ht
    rw [List.length_map, p3.1.1] at h9
    exact h9
  have hn2 : n2 = 2 := z3.1.1.symm
  subst hn1 hn2
  have HP3 := Lib.hid p3
  have HZ3 := Lib.hid z3
  have HT := Lib.hid ht
  clear p3 z3 ht t1 t2 hnd HTR HV
  go_wp2_with fail
  with_reducible refine (HRT.out _ b3).mono ?_
  rintro _ w4 ⟨rfl, b4⟩
  obtain ⟨g1, o1, x1, rfl, hg1, hx1, _, k0, k1, k2, k3, k4, k5⟩ := (HP3.out.below b4).at_ (j := 1) (by omega)
  have hop : x1.op = 6 := by
    have h9 := congrArg (fun l : List PI => (l.getD 1 PI.nil).op) HT.out
    rw [pi_at hx1] at h9
    exact h9
  rw [hop] at k0
  obtain ⟨g2, o2, x2, e9, hg2, hx2, _, j0⟩ := (HZ3.out.below b4).at_ (j := 0) (by omega)
  obtain ⟨g3, o3, x3, e8, hg3, hx3, _, j1⟩ := (HZ3.out.below b4).at_ (j := 1) (by omega)
  rw [Nat.add_zero] at j0
  subst e9
  injection e8 with e8
  injection e8 with e6 e7
  subst e6 e7
  obtain rfl : x2 = 1 := by simpa using hx2.symm
  obtain rfl : x3 = -1 := by simpa using hx3.symm
  obtain ⟨g4, o4, x4, e5, hg4, hx4, _, i0, i1, i2, i3, i4, i5⟩ := ((HP.out.below b2).below (bb b3 b4)).at_ (j := 1) (by omega)
  injection e5 with e5
  injection e5 with e6 e7
  subst e6 e7
  obtain rfl : x4 = ins0 3 := by simpa [M3] using hx4.symm
  unfold ins0 at i0 i1 i2 i3 i4 i5
  simp only [Nat.one_mul, Nat.zero_add, Nat.reduceAdd] at i0 i1 i2 i3 i4 i5
  clear hx1 hx2 hx3 hx4 k1 k2 k3 k4 k5 hop
  go_wp2_with fail
  with_reducible refine (HSH.out _ (bb b3 b4)).mono ?_
  rintro _ w5 ⟨rfl, b5⟩
  unfold neg0
  go_wp2_with fail
  go_ret
  exact ⟨rfl, bb b1 (bb b2 (bb b3 (bb b4 b5)))⟩

end Go.Proofs.YtibgpeaplmcogaaGreatDoor

namespace Go.Proofs.YtibgpeaplmcogaaGreatDoor
set_option maxRecDepth 100000
open Go.RowKit Go.Maps
set_option linter.unusedVariables false
set_option linter.unusedSimpArgs false

theorem plain_ints {w : World} {A B : Option Addr} {n c d : Nat} {zs : List Int} (h : SlZ w A n c zs) (h' : SlZ w B n d zs) (hn : n ≤ 65536) :
    Calls Tryz.prog 32 #[.slice A n c, .slice B n d] w (RetBl true w) := by
  go_enter Tryz.func32, Tryz.ntmps32
  go_wp2
  go_loopw [13] (fun i wr => ∃ k m : Nat, k ≤ n ∧ i = .int .i64 k ∧ wr = w.drewN m) (fun i _ => n - mes i)
  case atStart => exact ⟨0, 0, by omega, rfl, rfl⟩
  case round =>
    obtain ⟨k, m, hk, rfl, rfl⟩ := hrel
    by_cases hk2 : k < n
    · obtain ⟨b, off, x, rfl, hb, hx, _, g1⟩ := h.at_ hk2
      obtain ⟨b', off', y, rfl, hb', hy, _, g2⟩ := h'.at_ hk2
      obtain rfl : x = y := by rw [hx] at hy; cases hy; rfl
      clear hx hy
      go_wp2
      go_region
      all_goals try go_wp2
      go_roundw
      case rel => exact ⟨k + 1, m + 1, by omega, by go_num, rfl⟩
      case measure => simp [mes, intOf]; omega
    · go_wp2
      go_ret
      exact ⟨rfl, ⟨rfl, rfl, rfl, Nat.le_refl _, fun _ _ => rfl⟩⟩
set_option maxRecDepth 100000 in
set_option maxHeartbeats 4000000 in
theorem ref_sameP {w : World} {A B : Option Addr} {n c d N : Nat} {xs ys : List RI} (h : SlP w A n c xs) (h' : SlP w B n d ys) (e : xs.map RI.pi = ys.map RI.pi) (hs : Shrt N xs) (hs' : Shrt N ys) (hN : N ≤ 1000) (hn : n ≤ 65536) :
    Calls Tryz.prog 31 #[.slice A n c, .slice B n d] w (RetBl true w) := by
  have HE := Lib.hid e
  have HH := Lib.hid h
  have HH' := Lib.hid h'
  clear e h h'
  go_enter Tryz.func31, Tryz.ntmps31
  go_wp2_with fail
  go_loopw [13] (fun iv wr => ∃ j : Nat, j ≤ n ∧ iv = .int .i64 j ∧ Below w.heap.size w wr) (fun iv _ => n - mes iv)
  case atStart => exact ⟨0, by omega, rfl, Below.refl _ _⟩
  case round =>
    obtain ⟨j, hj, rfl, hb⟩ := hrel
    by_cases hj2 : j < n
    · obtain ⟨b1, o1, x, rfl, hb1, hx, hxo, k0, k1, k2, k3, k4, k5⟩ := (HH.out.below hb).at_ hj2
      obtain ⟨b2, o2, y, rfl, hb2, hy, hyo, j0, j1, j2, j3, j4, j5⟩ := (HH'.out.below hb).at_ hj2
      have exy : x.pi = y.pi := by rw [← pi_at hx, ← pi_at hy, HE.out]
      obtain ⟨hs1, hs2⟩ := hs x (mem_at hx)
      obtain ⟨hs3, hs4⟩ := hs' y (mem_at hy)
      obtain ⟨op, a, b, ⟨s, A1, n1, c1, z1, A2, n2, c2, z2⟩⟩ := x
      obtain ⟨op', a', b', ⟨s', A3, n3, c3, z3, A4, n4, c4, z4⟩⟩ := y
      unfold RI.pi at exy
      simp only [PI.mk.injEq, Prod.mk.injEq] at exy
      obtain ⟨rfl, rfl, rfl, rfl, rfl, rfl⟩ := exy
      obtain ⟨_, _, _, q1, q2, _⟩ := hxo
      obtain ⟨_, _, _, q3, q4, _⟩ := hyo
      simp only at k0 k1 k2 k3 k4 k5 j0 j1 j2 j3 j4 j5 hs1 hs2 hs3 hs4 q1 q2 q3 q4
      have SM := fun (w1 : World) (hb9 : Below wr.heap.size wr w1) => ref_same (s := s) (t := s) (q1.below hb9) (q2.below hb9) (q3.below hb9) (q4.below hb9) (by omega) (by omega) (by omega) (by omega)
      have ed : decide (s = s ∧ z1 = z1 ∧ z2 = z2) = true := decide_eq_true ⟨rfl, rfl, rfl⟩
      simp only [ed] at SM
      have hS : ∀ w', Below wr.heap.size wr w' → (w'.cell? ⟨b1, o1 + j * 6, none⟩ = some (.int .i64 op) ∧ w'.cell? ⟨b1, o1 + j * 6 + 1, none⟩ = some (.int .i64 a) ∧ w'.cell? ⟨b1, o1 + j * 6 + 2, none⟩ = some (.int .i64 b) ∧ w'.cell? ⟨b1, o1 + j * 6 + 3, none⟩ = some (.bool s) ∧ w'.cell? ⟨b1, o1 + j * 6 + 4, none⟩ = some (.slice A1 n1 c1) ∧ w'.cell? ⟨b1, o1 + j * 6 + 5, none⟩ = some (.slice A2 n2 c2)) ∧ (w'.cell? ⟨b2, o2 + j * 6, none⟩ = some (.int .i64 op) ∧ w'.cell? ⟨b2, o2 + j * 6 + 1, none⟩ = some (.int .i64 a) ∧ w'.cell? ⟨b2, o2 + j * 6 + 2, none⟩ = some (.int .i64 b) ∧ w'.cell? ⟨b2, o2 + j * 6 + 3, none⟩ = some (.bool s) ∧ w'.cell? ⟨b2, o2 + j * 6 + 4, none⟩ = some (.slice A3 n3 c3) ∧ w'.cell? ⟨b2, o2 + j * 6 + 5, none⟩ = some (.slice A4 n4 c4)) := fun w' hb9 =>
        ⟨⟨(hb9.cell (p := ⟨b1, o1 + j * 6, none⟩) hb1).trans k0, (hb9.cell (p := ⟨b1, o1 + j * 6 + 1, none⟩) hb1).trans k1, (hb9.cell (p := ⟨b1, o1 + j * 6 + 2, none⟩) hb1).trans k2, (hb9.cell (p := ⟨b1, o1 + j * 6 + 3, none⟩) hb1).trans k3, (hb9.cell (p := ⟨b1, o1 + j * 6 + 4, none⟩) hb1).trans k4, (hb9.cell (p := ⟨b1, o1 + j * 6 + 5, none⟩) hb1).trans k5⟩,
         (hb9.cell (p := ⟨b2, o2 + j * 6, none⟩) hb2).trans j0, (hb9.cell (p := ⟨b2, o2 + j * 6 + 1, none⟩) hb2).trans j1, (hb9.cell (p := ⟨b2, o2 + j * 6 + 2, none⟩) hb2).trans j2, (hb9.cell (p := ⟨b2, o2 + j * 6 + 3, none⟩) hb2).trans j3, (hb9.cell (p := ⟨b2, o2 + j * 6 + 4, none⟩) hb2).trans j4, (hb9.cell (p := ⟨b2, o2 + j * 6 + 5, none⟩) hb2).trans j5⟩
      have f1 : (op != op) = false := by simp
      have f2 : (a != a) = false := by simp
      have f3 : (b != b) = false := by simp
      have HSM := Lib.hid SM
      have HS := Lib.hid hS
      clear SM hS q1 q2 q3 q4 hs1 hs2 hs3 hs4 hx hy ed
      go_wp2_with fail
      go_region_held3 (fun w' => (w'.cell? ⟨b1, o1 + j * 6, none⟩ = some (.int .i64 op) ∧ w'.cell? ⟨b1, o1 + j * 6 + 1, none⟩ = some (.int .i64 a) ∧ w'.cell? ⟨b1, o1 + j * 6 + 2, none⟩ = some (.int .i64 b) ∧ w'.cell? ⟨b1, o1 + j * 6 + 3, none⟩ = some (.bool s) ∧ w'.cell? ⟨b1, o1 + j * 6 + 4, none⟩ = some (.slice A1 n1 c1) ∧ w'.cell? ⟨b1, o1 + j * 6 + 5, none⟩ = some (.slice A2 n2 c2)) ∧ (w'.cell? ⟨b2, o2 + j * 6, none⟩ = some (.int .i64 op) ∧ w'.cell? ⟨b2, o2 + j * 6 + 1, none⟩ = some (.int .i64 a) ∧ w'.cell? ⟨b2, o2 + j * 6 + 2, none⟩ = some (.int .i64 b) ∧ w'.cell? ⟨b2, o2 + j * 6 + 3, none⟩ = some (.bool s) ∧ w'.cell? ⟨b2, o2 + j * 6 + 4, none⟩ = some (.slice A3 n3 c3) ∧ w'.cell? ⟨b2, o2 + j * 6 + 5, none⟩ = some (.slice A4 n4 c4))) (first | with_reducible exact HS.out _ (Below.refl _ wr).drew | with_reducible exact HS.out _ x2 | fail)
        (first
          | (go_at_call 42; (with_reducible refine (HSM.out _ ?hb1).mono ?_); (case hb1 => exact (Below.refl _ wr).drew); rintro _ w9 ⟨rfl, b9⟩; have x2 : Below wr.heap.size wr w9 := Below.undrew b9))
      all_goals
        go_wp2_with fail
        go_roundw
        case rel => exact ⟨j + 1, by omega, by go_num, bb hb x2⟩
        case measure => simp [mes, intOf]; omega
    · obtain rfl : j = n := by omega
      go_wp2_with fail
      go_ret
      exact ⟨rfl, hb⟩

set_option maxRecDepth 100000 in
set_option maxHeartbeats 8000000 in
theorem lineAgain_walk {w : World} {A B : Option Addr} {n c m d : Nat} {xs : List RI} {outs : List Int} (h : SlP w A n c xs) (ho : SlZ w B m d outs) (hN : Nam w) :
    Calls Tryz.prog 5 #[.slice A n c, .slice B m d] w (RetBl true w) := by
  have MN := law_many h
  have SM := fun (w1 : World) (hb9 : Below w.heap.size w w1) => same15 w1 (hN.below hb9)
  have HSM := Lib.hid SM
  clear SM
  obtain ⟨p, hp⟩ : ∃ p, manyB xs = p := ⟨_, rfl⟩
  rw [hp] at MN
  have HMN := Lib.hid MN
  clear MN
  by_cases hbad : p = true ∨ 100 < m
  · have hc : p = true ∨ (p = false ∧ 100 < m) := by
      cases p
      · rcases hbad with h9 | h9
        · cases h9
        · exact .inr ⟨rfl, h9⟩
      · exact .inl rfl
    clear hbad h ho hp
    rcases hc with rfl | ⟨rfl, h1⟩
    all_goals
      go_enter Tryz.func5, Tryz.ntmps5
      go_wp2_with fail
      with_reducible refine HMN.out.mono ?_
      rintro _ w1 ⟨rfl, b1⟩
      go_wp2_with fail
      with_reducible refine (HSM.out _ b1).mono ?_
      rintro _ w2 ⟨rfl, b2⟩
      go_wp2_with fail
      go_ret
      exact ⟨rfl, bb b1 b2⟩
  have hpf : p = false := by
    cases p
    · rfl
    · exact absurd (.inl rfl) hbad
  have hm100 : m ≤ 100 := Nat.le_of_not_lt fun e => hbad (.inr e)
  subst hpf
  unfold manyB at hp
  rw [Bool.or_eq_false_iff] at hp
  have hs := anyI_short hp.1
  have hn : n ≤ 300 := by
    have h9 := of_decide_eq_false hp.2
    rw [h.1.1] at h9
    omega
  clear hp hbad
  have P1 := fun (w1 : World) (hb9 : Below w.heap.size w w1) => ref_right15 (h.below hb9) hs (by omega) (by omega)
  have hpi := progB_iff (xs.map RI.pi)
  have TR := fun hp (w1 : World) (hb9 : Below w.heap.size w w1) => line_Trim (h.below hb9) hs (by omega) (ho.below hb9) (by omega) (by omega) hp
  have C1 := fun (w1 : World) (hb9 : Below w.heap.size w w1) => line_counts (h.below hb9) (by omega)
  have I1 := fun (w1 : World) (hb9 : Below w.heap.size w w1) => line_inputs (h.below hb9) (by omega)
  have hlen : (xs.map RI.pi).length = n := by rw [List.length_map]; exact h.1.1
  generalize progB (xs.map RI.pi) = pp at *
  have HP1 := Lib.hid P1
  clear P1
  cases pp
  case false =>
    clear TR C1 I1 hpi h ho hs hlen
    go_enter Tryz.func5, Tryz.ntmps5
    go_wp2_with fail
    with_reducible refine HMN.out.mono ?_
    rintro _ w1 ⟨rfl, b1⟩
    go_wp2_with fail
    with_reducible refine (HP1.out _ b1).mono ?_
    rintro _ w2 ⟨rfl, b2⟩
    go_wp2_with fail
    with_reducible refine (HSM.out _ (bb b1 b2)).mono ?_
    rintro _ w3 ⟨rfl, b3⟩
    go_wp2_with fail
    go_ret
    exact ⟨rfl, bb b1 (bb b2 b3)⟩
  case true =>
  have hprog := hpi.1 rfl
  have HTR := Lib.hid (TR hprog)
  have HC1 := Lib.hid C1
  have HI1 := Lib.hid I1
  have HPR := Lib.hid hprog
  have HL := Lib.hid hlen
  have HOL := Lib.hid (show outs.length = m from ho.1.1)
  clear TR C1 I1 hpi h ho hs hlen hprog
  go_enter Tryz.func5, Tryz.ntmps5
  go_wp2_with fail
  with_reducible refine HMN.out.mono ?_
  rintro _ w1 ⟨rfl, b1⟩
  go_wp2_with fail
  with_reducible refine (HP1.out _ b1).mono ?_
  rintro _ w2 ⟨rfl, b2⟩
  have y2 := bb b1 b2
  clear b1 b2 HP1 HMN
  go_wp2_with fail
  with_reducible refine (HTR.out _ y2).mono ?_
  rintro _ w3 ⟨mk, hnd, A3, n3, c3, ys, A4, n4, c4, rfl, p3, ht3, s3, z3, b3⟩
  have y3 := bb y2 b3
  have hn3 : n3 = (trimL (xs.map RI.pi) mk).length := by rw [← ht3, List.length_map]; exact p3.1.1.symm
  have hn3' : n3 ≤ 300 := by rw [hn3, trimL_len]; have := cnt_le mk (xs.map RI.pi).length; have := HL.out; omega
  have hn4 : n4 ≤ 100 := by
    have h9 := z3.1.1
    have h8 := HOL.out
    unfold trimO at h9
    rw [List.length_map] at h9
    omega
  have htp := trim_prog HPR.out hnd
  have TR2 := line_Trim p3 s3 (by omega) z3 (by omega) (by omega) (by rw [ht3]; exact htp)
  rw [ht3] at TR2
  have R3 := fun (w1 : World) (hb9 : Below w3.heap.size w3 w1) => line_right (p3.below hb9) s3 (by omega) (by omega)
  rw [ht3, (progB_iff _).2 htp] at R3
  have C3 := fun (w1 : World) (hb9 : Below w3.heap.size w3 w1) => line_counts (p3.below hb9) (by omega)
  have I3 := fun (w1 : World) (hb9 : Below w3.heap.size w3 w1) => line_inputs (p3.below hb9) (by omega)
  rw [ht3] at C3 I3
  have hc9 : countTo hasOps (trimL (xs.map RI.pi) mk) n3 ≤ countTo hasOps (xs.map RI.pi) n := by
    have h9 := count_trim (g := hasOps) (l := xs.map RI.pi) (m := mk) (fun x => rfl) (xs.map RI.pi).length (Nat.le_refl _)
    rw [hn3, trimL_len, ← HL.out]
    exact h9
  have hi9 : inputsTo (trimL (xs.map RI.pi) mk) n3 ≤ inputsTo (xs.map RI.pi) n := by
    have h9 := inputs_trim (l := xs.map RI.pi) (m := mk) (xs.map RI.pi).length (Nat.le_refl _)
    rw [hn3, trimL_len, ← HL.out]
    exact h9
  have hag := fun mk' (hnd' : IsNeed (trimL (xs.map RI.pi) mk) (trimO (xs.map RI.pi) mk outs) mk') => trim_again (prog_ahead HPR.out) hnd hnd'
  have HTR2 := Lib.hid TR2
  have HR3 := Lib.hid R3
  have HC3 := Lib.hid C3
  have HI3 := Lib.hid I3
  have HP3 := Lib.hid p3
  have HZ3 := Lib.hid z3
  have HT3 := Lib.hid ht3
  have HAG := Lib.hid hag
  have HS3 := Lib.hid s3
  clear TR2 R3 C3 I3 p3 z3 ht3 hag s3 htp hn3 hnd HTR
  go_wp2_with fail
  with_reducible refine HTR2.out.mono ?_
  rintro _ w5 ⟨mk2, hnd2, A5, n5, c5, us, A6, n6, c6, rfl, p5, ht5, s5, z5, b5⟩
  obtain ⟨g1, g2⟩ := HAG.out mk2 hnd2
  rw [g1] at ht5
  rw [g2] at z5
  have e5 : n5 = n3 := by
    have h9 := congrArg List.length (ht5.trans HT3.out.symm)
    rw [List.length_map, List.length_map, p5.1.1, HP3.out.1.1] at h9
    exact h9
  have e6 : n6 = n4 := by rw [← z5.1.1, ← HZ3.out.1.1]
  subst e5 e6
  have SP := fun (w1 : World) (hb9 : Below w5.heap.size w5 w1) => ref_sameP ((HP3.out.below b5).below hb9) (p5.below hb9) (HT3.out.trans ht5.symm) HS3.out s5 (by omega) (by omega)
  have SI := fun (w1 : World) (hb9 : Below w5.heap.size w5 w1) => plain_ints ((HZ3.out.below b5).below hb9) (z5.below hb9) (by omega)
  have HSP := Lib.hid SP
  have HSI := Lib.hid SI
  have y5 := bb y3 b5
  clear SP SI p5 ht5 z5 s5 g1 g2 hnd2 HTR2 HAG HP3 HZ3 HT3 HS3
  generalize countTo hasOps (trimL (xs.map RI.pi) mk) n5 = q1 at *
  generalize countTo hasOps (xs.map RI.pi) n = q2 at *
  generalize inputsTo (trimL (xs.map RI.pi) mk) n5 = q3 at *
  generalize inputsTo (xs.map RI.pi) n = q4 at *
  go_wp2_with fail
  with_reducible refine (HR3.out _ b5).mono ?_
  rintro _ w6 ⟨rfl, b6⟩
  go_wp2_with fail
  with_reducible refine (HSP.out _ b6).mono ?_
  rintro _ w7 ⟨rfl, b7⟩
  go_wp2_with fail
  with_reducible refine (HSI.out _ (bb b6 b7)).mono ?_
  rintro _ w8 ⟨rfl, b8⟩
  have x8 := bb b6 (bb b7 b8)
  go_wp2_with fail
  with_reducible refine (HC3.out _ (bb b5 x8)).mono ?_
  rintro _ w9 ⟨rfl, b9⟩
  have x9 := bb x8 b9
  go_wp2_with fail
  with_reducible refine (HC1.out _ (bb y5 x9)).mono ?_
  rintro _ w10 ⟨rfl, b10⟩
  have x10 := bb x9 b10
  go_wp2_with fail
  with_reducible refine (HI3.out _ (bb b5 x10)).mono ?_
  rintro _ w11 ⟨rfl, b11⟩
  have x11 := bb x10 b11
  go_wp2_with fail
  with_reducible refine (HI1.out _ (bb y5 x11)).mono ?_
  rintro _ w12 ⟨rfl, b12⟩
  have x12 := bb x11 b12
  go_wp2_with fail
  with_reducible refine (HSM.out _ (bb y5 x12)).mono ?_
  rintro _ w13 ⟨rfl, b13⟩
  go_wp2_with fail
  go_ret
  exact ⟨rfl, bb (bb y5 x12) b13⟩

end Go.Proofs.YtibgpeaplmcogaaGreatDoor

namespace Go.Proofs.YtibgpeaplmcogaaGreatDoor
set_option maxRecDepth 100000
open Go.RowKit
set_option linter.unusedVariables false
set_option linter.unusedSimpArgs false
set_option maxRecDepth 100000

theorem nam15a {W : World} (h : laidMetH Tryz.prog Rows.lineAgainRow.laid W) : Nam W := by
  rw [MakeChecks.laidMetH_plain _ _ _ (by kernel_rfl)] at h
  obtain ⟨ps, ⟨_, _, _, _, _, _, _, _, _, _, ⟨_, _, _, _, _, _, _, _, _, _, ⟨_, _, _, _, _, _, _, _, _, _, ⟨_, _, _, _, _, _, _, _, _, _, ⟨g, t, cs, fuel, p, q, hg, ht, hv, hd, _, _⟩, _⟩, _⟩, _⟩, _⟩, _, _⟩ := h
  obtain rfl : g = 0 := Option.some.inj (hg.symm.trans (show Tryz.prog.globalNamed ((Rows.lineAgainRow.laid.map Prod.fst).getD 4 Rows.lineAgainRow.spec) = some 0 by kernel_rfl))
  obtain rfl := Option.some.inj ((show (Tryz.prog.globals[0]?).map (·.type) = some 67 by kernel_rfl).symm.trans ht)
  obtain ⟨xs, m, _, ex, _, hl, hel⟩ := DataW.trod_array Tryz.underlying67 hd
  have c5 : Tryz.prog.cellsOf 9 = 1 := by kernel_rfl
  have hcell : ∀ r, r < 11 → W.cell? ⟨0, r, none⟩ = some (.string (nmS r)) := by
    intro r hr
    have hE := hel r hr
    rw [c5, Nat.mul_one, List.getElem?_eq_getElem (by omega)] at hE
    obtain ⟨s, e1, e2, _⟩ := DataW.trod_string Tryz.underlying9 hE
    have hlen : nameL.length = 11 := rfl
    have e3 : (xs.map (·.1)) = nameL.map fun n => (DataW.lit (.string n) : DataW Unit) := (DataW.agg.inj (Prod.mk.inj ex).1).symm
    have e4 : (xs.map (·.1))[r]? = (nameL.map fun n => (DataW.lit (.string n) : DataW Unit))[r]? := by rw [e3]
    rw [List.getElem?_map, List.getElem?_map, List.getElem?_eq_getElem (by omega : r < xs.length), List.getElem?_eq_getElem (by omega : r < nameL.length), e2] at e4
    have hz : s = nmS r := by
      simp only [Option.map_some, Option.some.injEq, DataW.lit.injEq, Lit.string.injEq] at e4
      unfold nmS
      rw [List.getD, List.getElem?_eq_getElem (by omega : r < nameL.length), Option.getD_some, ← e4]
    rw [World.var?_cell hg hv r, ← hz]
    have : cs.toList[r]? = some (.string s) := by
      have h0 : ((cs.toList.drop r).take 1)[0]? = some (.string s) := by rw [e1]; rfl
      simpa using h0
    simpa using this
  refine ⟨?_, hcell⟩
  have h1 := hcell 0 (by omega)
  rcases Nat.lt_or_ge 0 W.heap.size with h0 | h0
  · exact h0
  · exfalso
    have : W.heap[0]? = none := Array.getElem?_eq_none h0
    unfold World.cell? at h1
    simp [this] at h1

theorem lineAgain_row (a0 : Option Addr) (len0 cap0 : Nat) (z0 : List RI) (a1 : Option Addr) (len1 cap1 : Nat) (z1 : List Int) (w : World) (w0 : SlP w a0 len0 cap0 z0) (w1 : SlZ w a1 len1 cap1 z1) (hN : Nam w) :
    Calls Tryz.prog 5 #[.slice a0 len0 cap0, .slice a1 len1 cap1] w (RetBl true w) := lineAgain_walk w0 w1 hN

end Go.Proofs.YtibgpeaplmcogaaGreatDoor
