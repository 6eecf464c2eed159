/-
  A bank of scalars of three modes, plainly: what each call returns and how the bank is then; each act only adds, and undoing it gives the bank back. Conditions: as each lemma says.
-/
import Derived.Test.YthpbaaanbimapaaGreatDoorZOwnAllC
import Derived.Test.YthpbaaanbimapaaGreatDoorU64AllC
import Derived.Deep.DeepCutAuto
import Derived.Test.YthpbaaanbimapaaGreatDoorRefShiftAllC
import Derived.Test.YthpbaaanbimapaaGreatDoorGcdMathAllC
import Derived.Test.YthpbaaanbimapaaGreatDoorProdRowAllC
import Derived.Below
import Derived.Test.YthpbaaanbimapaaGreatDoorNatShlAllC
import Derived.Test.YthpbaaanbimapaaGreatDoorLimbDivAllC
import Derived.Test.YthpbaaanbimapaaGreatDoorQuotWordAllC
import Derived.Deep.RegionHeld3
namespace Go.Proofs.YthpbaaanbimapaaGreatDoor
set_option maxRecDepth 100000
open Go.RowKit
set_option linter.unusedVariables false
set_option linter.unusedSimpArgs false

/-! ### sums -/
/-- what a double's digits say, in units of the least double -/
def vl (b : Nat) : Nat := fv (mant b)
/-- the sum of two doubles that have values -/
def fsumF (a b : Nat) : Nat :=
  if ng a = ng b then sg (ng a) (mag (vl a + vl b) 1) else if vl a = vl b then 0 else if vl b < vl a then sg (ng a) (mag (vl a - vl b) 1) else sg (ng b) (mag (vl b - vl a) 1)
/-- the sum of two doubles of any kinds -/
def fadd (a b : Nat) : Nat :=
  if kd a = 4 ∨ kd b = 4 ∨ (kd a = 3 ∧ kd b = 3 ∧ a ≠ b) then NAN else if kd a = 3 then a else if kd b = 3 then b else fsumF a b
def fsub (a b : Nat) : Nat := fadd a (flc b)
end Go.Proofs.YthpbaaanbimapaaGreatDoor

namespace Go.Proofs.YthpbaaanbimapaaGreatDoor
set_option maxRecDepth 100000
open Go.RowKit
set_option linter.unusedVariables false
set_option linter.unusedSimpArgs false

end Go.Proofs.YthpbaaanbimapaaGreatDoor

namespace Go.Proofs.YthpbaaanbimapaaGreatDoor
set_option maxRecDepth 100000
open Go.RowKit
set_option linter.unusedVariables false
set_option linter.unusedSimpArgs false

end Go.Proofs.YthpbaaanbimapaaGreatDoor

namespace Go.Proofs.YthpbaaanbimapaaGreatDoor
set_option maxRecDepth 100000
open Go.RowKit
set_option linter.unusedVariables false
set_option linter.unusedSimpArgs false

end Go.Proofs.YthpbaaanbimapaaGreatDoor

namespace Go.Proofs.YthpbaaanbimapaaGreatDoor
set_option maxRecDepth 100000
open Go.RowKit
set_option linter.unusedVariables false
set_option linter.unusedSimpArgs false

end Go.Proofs.YthpbaaanbimapaaGreatDoor

namespace Go.Proofs.YthpbaaanbimapaaGreatDoor
set_option maxRecDepth 100000
open Go.RowKit
set_option linter.unusedVariables false
set_option linter.unusedSimpArgs false

/-- with a half more, or without -/
def magM (v : Nat) (e : Int) (more : Bool) : Nat := if more then magR (2 * v + 1) 1 (e - 1) else magR v 1 e
end Go.Proofs.YthpbaaanbimapaaGreatDoor

namespace Go.Proofs.YthpbaaanbimapaaGreatDoor
set_option maxRecDepth 100000
open Go.RowKit
set_option linter.unusedVariables false
set_option linter.unusedSimpArgs false

/-! ### products -/
/-! ### quotients -/
/-! ### roots -/
/-- the double nearest to the root of N, times 2^e -/
def rtM (N : Nat) (e : Int) : Nat := magM (rt N) e (decide (rt N * rt N ≠ N))
/-- how many zeros the document appends -/
def upz (b : Nat) : Nat := if xpo b % 2 = 0 then 160 else 161
def fsqM (b : Nat) : Nat := rtM (sig b * 2 ^ upz b) ((xpo b - upz b) / 2)
/-! ### the whole -/
def fmul (a b : Nat) : Nat :=
  if kd a = 4 ∨ kd b = 4 ∨ (kd a = 3 ∧ kd b = 0) ∨ (kd a = 0 ∧ kd b = 3) then NAN else if kd a = 3 ∨ kd b = 3 then sg (ng a != ng b) INF else sg (ng a != ng b) (magR (sig a * sig b) 1 (xpo a + xpo b))
def fdiv (a b : Nat) : Nat :=
  if kd a = 4 ∨ kd b = 4 ∨ (kd a = 3 ∧ kd b = 3) ∨ (kd a = 0 ∧ kd b = 0) then NAN else if kd a = 3 ∨ kd b = 0 then sg (ng a != ng b) INF else if kd a = 0 ∨ kd b = 3 then sg (ng a != ng b) 0 else sg (ng a != ng b) (magR (sig a) (sig b) (xpo a - xpo b))
def fsqrt (b : Nat) : Nat :=
  if kd b = 0 then b else if kd b = 4 ∨ ng b = true then NAN else if kd b = 3 then b else fsqM b

end Go.Proofs.YthpbaaanbimapaaGreatDoor

namespace Go.Proofs.YthpbaaanbimapaaGreatDoor
set_option maxRecDepth 100000
open Go.RowKit
set_option linter.unusedVariables false
set_option linter.unusedSimpArgs false

end Go.Proofs.YthpbaaanbimapaaGreatDoor

namespace Go.Proofs.YthpbaaanbimapaaGreatDoor
set_option maxRecDepth 100000
open Go.RowKit
set_option linter.unusedVariables false
set_option linter.unusedSimpArgs false

end Go.Proofs.YthpbaaanbimapaaGreatDoor

namespace Go.Proofs.YthpbaaanbimapaaGreatDoor
set_option maxRecDepth 100000
open Go.RowKit
set_option linter.unusedVariables false
set_option linter.unusedSimpArgs false

end Go.Proofs.YthpbaaanbimapaaGreatDoor

namespace Go.Proofs.YthpbaaanbimapaaGreatDoor
set_option maxRecDepth 100000
open Go.RowKit
set_option linter.unusedVariables false
set_option linter.unusedSimpArgs false

end Go.Proofs.YthpbaaanbimapaaGreatDoor

namespace Go.Proofs.YthpbaaanbimapaaGreatDoor
set_option maxRecDepth 100000
open Go.RowKit
set_option linter.unusedVariables false
set_option linter.unusedSimpArgs false

end Go.Proofs.YthpbaaanbimapaaGreatDoor

namespace Go.Proofs.YthpbaaanbimapaaGreatDoor
set_option maxRecDepth 100000
open Go.RowKit
set_option linter.unusedVariables false
set_option linter.unusedSimpArgs false

end Go.Proofs.YthpbaaanbimapaaGreatDoor

namespace Go.Proofs.YthpbaaanbimapaaGreatDoor
set_option maxRecDepth 100000
open Go.RowKit
set_option linter.unusedVariables false
set_option linter.unusedSimpArgs false

end Go.Proofs.YthpbaaanbimapaaGreatDoor

namespace Go.Proofs.YthpbaaanbimapaaGreatDoor
set_option maxRecDepth 100000
open Go.RowKit
set_option linter.unusedVariables false
set_option linter.unusedSimpArgs false

end Go.Proofs.YthpbaaanbimapaaGreatDoor

namespace Go.Proofs.YthpbaaanbimapaaGreatDoor
set_option maxRecDepth 100000
open Go.RowKit
set_option linter.unusedVariables false
set_option linter.unusedSimpArgs false

end Go.Proofs.YthpbaaanbimapaaGreatDoor

namespace Go.Proofs.YthpbaaanbimapaaGreatDoor
set_option maxRecDepth 100000
open Go.RowKit
set_option linter.unusedVariables false
set_option linter.unusedSimpArgs false

end Go.Proofs.YthpbaaanbimapaaGreatDoor

namespace Go.Proofs.YthpbaaanbimapaaGreatDoor
set_option maxRecDepth 100000
open Go.RowKit
set_option linter.unusedVariables false
set_option linter.unusedSimpArgs false

end Go.Proofs.YthpbaaanbimapaaGreatDoor

namespace Go.Proofs.YthpbaaanbimapaaGreatDoor
set_option maxRecDepth 100000
open Go.RowKit
set_option linter.unusedVariables false
set_option linter.unusedSimpArgs false

/-! ### plain -/
/-! ### the root of a rounded square -/
/-! ### the walks -/
end Go.Proofs.YthpbaaanbimapaaGreatDoor

namespace Go.Proofs.YthpbaaanbimapaaGreatDoor
set_option maxRecDepth 100000
open Go.RowKit
set_option linter.unusedVariables false
set_option linter.unusedSimpArgs false

end Go.Proofs.YthpbaaanbimapaaGreatDoor

namespace Go.Proofs.YthpbaaanbimapaaGreatDoor
set_option maxRecDepth 100000
open Go.RowKit
set_option linter.unusedVariables false
set_option linter.unusedSimpArgs false

end Go.Proofs.YthpbaaanbimapaaGreatDoor

namespace Go.Proofs.YthpbaaanbimapaaGreatDoor
set_option maxRecDepth 100000
open Go.RowKit
set_option linter.unusedVariables false
set_option linter.unusedSimpArgs false

/-- the number 1 in units of the least double -/
@[irreducible] def OO : Nat := 2 ^ K74
/-! ### what layers 10 and 13 do, plainly -/
def fint (n : Int) : Nat := sg (decide (n < 0)) (magR n.natAbs 1 0)
def fscale (b : Nat) (k : Int) : Nat := if fld b < 2047 then sg (ng b) (magR (sig b) 1 (xpo b + k)) else cln b
/-- the integer nearest to a finite double -/
def fnv (b : Nat) : Int := sI (ng b) (rdiv (vl b) OO)
def fless (a b : Nat) : Bool :=
  if kd a = 4 ∨ kd b = 4 then false else if ng a = true ∧ ng b = true then decide (b < a) else if ng a = true then (decide (a ≠ 9223372036854775808) || decide (b ≠ 0)) else (!(ng b) && decide (a < b))
/-! ### infinities stand beyond all others -/
/-! ### the nearest integer -/
/-! ### times powers of 2 -/
end Go.Proofs.YthpbaaanbimapaaGreatDoor

namespace Go.Proofs.YthpbaaanbimapaaGreatDoor
set_option maxRecDepth 100000
open Go.RowKit
set_option linter.unusedVariables false
set_option linter.unusedSimpArgs false

/-- what a double says, with its sign -/
def iv (b : Nat) : Int := sI (ng b) (vl b)
/-! ### bounds -/
/-! ### the exponential's sum: each step leaves it without a sign, at most twice the term that it adds -/
@[irreducible] def HALF : Nat := 4602678819172646912
end Go.Proofs.YthpbaaanbimapaaGreatDoor

namespace Go.Proofs.YthpbaaanbimapaaGreatDoor
set_option maxRecDepth 100000
open Go.RowKit
set_option linter.unusedVariables false
set_option linter.unusedSimpArgs false

@[irreducible] def PP : Nat := 4609176140021203710
@[irreducible] def LL : Nat := 4604418534311723008
@[irreducible] def ll : Nat := 4461442080421002358
/-! ### the rest after the multiple of the logarithm of 2 is taken away is at most a half -/
@[irreducible] def HH : Nat := 2 ^ (K74 - 53)
@[irreducible] def W746 : Nat := 4649773101213548544
@[irreducible] def W1077 : Nat := 4652451511538810880
@[irreducible] def W716 : Nat := 4601552919265804288
@[irreducible] def WTINY : Nat := 4517110426252607488
def expR (x : Nat) : Nat := fsub (fsub x (fmul (fint (fnv (fmul x PP))) LL)) (fmul (fint (fnv (fmul x PP))) ll)
/-! ### the whole -/
/-- 1 divided by the factorials of 12, 11, .., 0 -/
def expC : List Nat := [4477122120089393304, 4493156764026750180, 4508805057796939612, 4523617214285662004, 4537941361671905306, 4551452160554016794, 4564047942368979991, 4575957461383581969, 4586165620538955093, 4595172819793696085, 4602678819172646912, 4607182418800017408, 4607182418800017408]
def expP (r : Nat) : Nat := expC.foldl (fun p c => fadd (fmul p r) c) 4460272573143870729
def fexp (x : Nat) : Nat := if kd x = 4 then NAN else if fless (fint 710) x = true then INF else if fless x (fint (-746)) = true then 0 else fscale (expP (expR x)) (fnv (fmul x PP))
end Go.Proofs.YthpbaaanbimapaaGreatDoor

namespace Go.Proofs.YthpbaaanbimapaaGreatDoor
set_option maxRecDepth 100000
open Go.RowKit
set_option linter.unusedVariables false
set_option linter.unusedSimpArgs false

@[irreducible] def ONE : Nat := 4607182418800017408
@[irreducible] def TWO : Nat := 4611686018427387904
@[irreducible] def RR : Nat := 4609047870845172685
@[irreducible] def W1116 : Nat := 4604367669032910848
@[irreducible] def W32 : Nat := 4609434218613702656
@[irreducible] def W516 : Nat := 4599301119452119040
@[irreducible] def W14 : Nat := 4598175219545276416
@[irreducible] def W116 : Nat := 4589168020290535424
@[irreducible] def W132 : Nat := 4584664420663164928
@[irreducible] def W164 : Nat := 4580160821035794432
@[irreducible] def W38 : Nat := 4600427019358961664
@[irreducible] def W3364 : Nat := 4602819556661002240
@[irreducible] def W3464 : Nat := 4602960294149357568
@[irreducible] def W4464 : Nat := 4604367669032910848
@[irreducible] def W53 : Nat := 4368491638549381120
@[irreducible] def W55 : Nat := 4359484439294640128
@[irreducible] def W4 : Nat := 4616189618054758400
/-- 1 divided by 19, 17, .., 3 -/
def logC : List Nat := [4587745830934523688, 4588638185040256542, 4589468260265693457, 4590207312512236308, 4591215111030249286, 4592670820000712476, 4594314991293244562, 4596373779694328218, 4599676419421066581]
def logP (z : Nat) : Nat := logC.foldl (fun p c => fadd (fmul p z) c) 4587023449039406616
def logY (f : Nat) : Nat :=
  fadd (fadd (fdiv (fsub f ONE) (fadd TWO (fsub f ONE))) (fdiv (fsub f ONE) (fadd TWO (fsub f ONE))))
    (fmul (fadd (fdiv (fsub f ONE) (fadd TWO (fsub f ONE))) (fdiv (fsub f ONE) (fadd TWO (fsub f ONE))))
      (fmul (logP (fmul (fdiv (fsub f ONE) (fadd TWO (fsub f ONE))) (fdiv (fsub f ONE) (fadd TWO (fsub f ONE))))) (fmul (fdiv (fsub f ONE) (fadd TWO (fsub f ONE))) (fdiv (fsub f ONE) (fadd TWO (fsub f ONE))))))
def logZ (f : Nat) (k : Int) : Nat := if k = 0 then logY f else fadd (fmul (fint k) LL) (fadd (logY f) (fmul (fint k) ll))
/-! ### the sum over powers of z -/
/-! ### the logarithm near 1 -/
/-! ### the whole -/
def lf0 (x : Nat) : Nat := 4602678819172646912 + sig x * 2 ^ (53 - blen (sig x))
def lk0 (x : Nat) : Int := xpo x + blen (sig x) - 1
def lf (x : Nat) : Nat := if RR < lf0 x then lf0 x - 4503599627370496 else lf0 x
def lk (x : Nat) : Int := if RR < lf0 x then lk0 x + 1 else lk0 x
def flog (x : Nat) : Nat := if kd x = 0 then sg true INF else if kd x = 4 ∨ ng x = true then NAN else if kd x = 3 then x else logZ (lf x) (lk x)
end Go.Proofs.YthpbaaanbimapaaGreatDoor

namespace Go.Proofs.YthpbaaanbimapaaGreatDoor
set_option maxRecDepth 100000
open Go.RowKit
set_option linter.unusedVariables false
set_option linter.unusedSimpArgs false

/-! ### tables and sums -/
/-- the factorials of 0 to 13 -/
def facL : List Int := [1, 1, 2, 6, 24, 120, 720, 5040, 40320, 362880, 3628800, 39916800, 479001600, 6227020800]
/-! ### constants -/
/-! ### times powers of 2 -/
end Go.Proofs.YthpbaaanbimapaaGreatDoor

namespace Go.Proofs.YthpbaaanbimapaaGreatDoor
set_option maxRecDepth 100000
open Go.RowKit
set_option linter.unusedVariables false
set_option linter.unusedSimpArgs false

end Go.Proofs.YthpbaaanbimapaaGreatDoor

namespace Go.Proofs.YthpbaaanbimapaaGreatDoor
set_option maxRecDepth 100000
open Go.RowKit
set_option linter.unusedVariables false
set_option linter.unusedSimpArgs false

/-- the variable factorials holds the factorials -/
def Fac (w : World) : Prop := 0 < w.heap.size ∧ ∀ r, r < 14 → w.cell? ⟨0, r, none⟩ = some (.int .i64 (facL.getD r 0))
theorem Fac.below {w w' : World} (h : Fac w) (b : Below w.heap.size w w') : Fac w' :=
  ⟨Nat.lt_of_lt_of_le h.1 b.size, fun r hr => (b.cell (p := ⟨0, r, none⟩) h.1).trans (h.2 r hr)⟩
end Go.Proofs.YthpbaaanbimapaaGreatDoor

namespace Go.Proofs.YthpbaaanbimapaaGreatDoor
set_option maxRecDepth 100000
open Go.RowKit
set_option linter.unusedVariables false
set_option linter.unusedSimpArgs false

end Go.Proofs.YthpbaaanbimapaaGreatDoor

namespace Go.Proofs.YthpbaaanbimapaaGreatDoor
set_option maxRecDepth 100000
open Go.RowKit
set_option linter.unusedVariables false
set_option linter.unusedSimpArgs false

end Go.Proofs.YthpbaaanbimapaaGreatDoor

namespace Go.Proofs.YthpbaaanbimapaaGreatDoor
set_option maxRecDepth 100000
open Go.RowKit
set_option linter.unusedVariables false
set_option linter.unusedSimpArgs false

end Go.Proofs.YthpbaaanbimapaaGreatDoor

namespace Go.Proofs.YthpbaaanbimapaaGreatDoor
set_option maxRecDepth 100000
open Go.RowKit
set_option linter.unusedVariables false
set_option linter.unusedSimpArgs false

end Go.Proofs.YthpbaaanbimapaaGreatDoor

namespace Go.Proofs.YthpbaaanbimapaaGreatDoor
set_option maxRecDepth 100000
open Go.RowKit
set_option linter.unusedVariables false
set_option linter.unusedSimpArgs false

end Go.Proofs.YthpbaaanbimapaaGreatDoor

namespace Go.Proofs.YthpbaaanbimapaaGreatDoor
set_option maxRecDepth 100000
open Go.RowKit
set_option linter.unusedVariables false
set_option linter.unusedSimpArgs false

end Go.Proofs.YthpbaaanbimapaaGreatDoor

namespace Go.Proofs.YthpbaaanbimapaaGreatDoor
set_option maxRecDepth 100000
open Go.RowKit
set_option linter.unusedVariables false
set_option linter.unusedSimpArgs false

end Go.Proofs.YthpbaaanbimapaaGreatDoor

namespace Go.Proofs.YthpbaaanbimapaaGreatDoor
set_option maxRecDepth 100000
open Go.RowKit
set_option linter.unusedVariables false
set_option linter.unusedSimpArgs false

end Go.Proofs.YthpbaaanbimapaaGreatDoor

namespace Go.Proofs.YthpbaaanbimapaaGreatDoor
set_option maxRecDepth 100000
open Go.RowKit
set_option linter.unusedVariables false
set_option linter.unusedSimpArgs false

/-- naturals as words -/
def nts (v : List Nat) : List Int := v.map fun (n : Nat) => (n : Int)
/-- all are words -/
def AllW (v : List Nat) : Prop := ∀ x ∈ v, x < 18446744073709551616
theorem AllW.at_ {v : List Nat} (h : AllW v) (j : Nat) : v.getD j 0 < 18446744073709551616 := by
  rw [List.getD_eq_getElem?_getD]
  cases e : v[j]? with
  | none => show 0 < _; omega
  | some x => exact h x (List.mem_of_getElem? e)
theorem AllW.snoc {v : List Nat} {x : Nat} (h : AllW v) (hx : x < 18446744073709551616) : AllW (v ++ [x]) := by
  intro y hy
  rcases List.mem_append.1 hy with hy | hy
  · exact h y hy
  · rw [List.mem_singleton.1 hy]; exact hx
theorem AllW.us {v : List Nat} (h : AllW v) : ∀ x ∈ nts v, U x := by
  intro x hx
  unfold nts at hx
  obtain ⟨y, hy, rfl⟩ := List.mem_map.1 hx
  have := h y hy
  exact ⟨by omega, by omega⟩
/-- an instruction's double, by those of the ones ahead -/
def flv (ins : List Nat) (x : PI) (v : List Nat) : Nat :=
  if x.op = 1 then cln (ins.getD x.a.toNat 0)
  else if x.op = 2 then fromQ (qval x.q)
  else if x.op = 3 then flc (v.getD x.a.toNat 0)
  else if x.op = 4 then fadd (v.getD x.a.toNat 0) (v.getD x.b.toNat 0)
  else if x.op = 5 then fsub (v.getD x.a.toNat 0) (v.getD x.b.toNat 0)
  else if x.op = 6 then fmul (v.getD x.a.toNat 0) (v.getD x.b.toNat 0)
  else if x.op = 7 then fdiv (v.getD x.a.toNat 0) (v.getD x.b.toNat 0)
  else if x.op = 8 then fsqrt (v.getD x.a.toNat 0)
  else if x.op = 9 then fexp (v.getD x.a.toNat 0)
  else flog (v.getD x.a.toNat 0)
theorem flv_1 {ins v : List Nat} {a b : Int} {q : Bool × List Int × List Int} : flv ins ⟨1, a, b, q⟩ v = cln (ins.getD a.toNat 0) := by
  unfold flv
  simp only
  rw [if_pos trivial]
theorem flv_2 {ins v : List Nat} {a b : Int} {q : Bool × List Int × List Int} : flv ins ⟨2, a, b, q⟩ v = fromQ (qval q) := by
  unfold flv
  simp only
  rw [if_neg (by decide), if_pos trivial]
theorem flv_3 {ins v : List Nat} {a b : Int} {q : Bool × List Int × List Int} : flv ins ⟨3, a, b, q⟩ v = flc (v.getD a.toNat 0) := by
  unfold flv
  simp only
  rw [if_neg (by decide), if_neg (by decide), if_pos trivial]
theorem flv_4 {ins v : List Nat} {a b : Int} {q : Bool × List Int × List Int} : flv ins ⟨4, a, b, q⟩ v = fadd (v.getD a.toNat 0) (v.getD b.toNat 0) := by
  unfold flv
  simp only
  rw [if_neg (by decide), if_neg (by decide), if_neg (by decide), if_pos trivial]
theorem flv_5 {ins v : List Nat} {a b : Int} {q : Bool × List Int × List Int} : flv ins ⟨5, a, b, q⟩ v = fsub (v.getD a.toNat 0) (v.getD b.toNat 0) := by
  unfold flv
  simp only
  rw [if_neg (by decide), if_neg (by decide), if_neg (by decide), if_neg (by decide), if_pos trivial]
theorem flv_6 {ins v : List Nat} {a b : Int} {q : Bool × List Int × List Int} : flv ins ⟨6, a, b, q⟩ v = fmul (v.getD a.toNat 0) (v.getD b.toNat 0) := by
  unfold flv
  simp only
  rw [if_neg (by decide), if_neg (by decide), if_neg (by decide), if_neg (by decide), if_neg (by decide), if_pos trivial]
theorem flv_7 {ins v : List Nat} {a b : Int} {q : Bool × List Int × List Int} : flv ins ⟨7, a, b, q⟩ v = fdiv (v.getD a.toNat 0) (v.getD b.toNat 0) := by
  unfold flv
  simp only
  rw [if_neg (by decide), if_neg (by decide), if_neg (by decide), if_neg (by decide), if_neg (by decide), if_neg (by decide), if_pos trivial]
theorem flv_8 {ins v : List Nat} {a b : Int} {q : Bool × List Int × List Int} : flv ins ⟨8, a, b, q⟩ v = fsqrt (v.getD a.toNat 0) := by
  unfold flv
  simp only
  rw [if_neg (by decide), if_neg (by decide), if_neg (by decide), if_neg (by decide), if_neg (by decide), if_neg (by decide), if_neg (by decide), if_pos trivial]
theorem flv_9 {ins v : List Nat} {a b : Int} {q : Bool × List Int × List Int} : flv ins ⟨9, a, b, q⟩ v = fexp (v.getD a.toNat 0) := by
  unfold flv
  simp only
  rw [if_neg (by decide), if_neg (by decide), if_neg (by decide), if_neg (by decide), if_neg (by decide), if_neg (by decide), if_neg (by decide), if_neg (by decide), if_pos trivial]
theorem flv_10 {ins v : List Nat} {a b : Int} {q : Bool × List Int × List Int} : flv ins ⟨10, a, b, q⟩ v = flog (v.getD a.toNat 0) := by
  unfold flv
  simp only
  rw [if_neg (by decide), if_neg (by decide), if_neg (by decide), if_neg (by decide), if_neg (by decide), if_neg (by decide), if_neg (by decide), if_neg (by decide), if_neg (by decide)]
end Go.Proofs.YthpbaaanbimapaaGreatDoor

namespace Go.Proofs.YthpbaaanbimapaaGreatDoor
set_option maxRecDepth 100000
open Go.RowKit
set_option linter.unusedVariables false
set_option linter.unusedSimpArgs false

/-- a scalar: its number (none: the zero one, no number), its bits, its ref -/
structure PV where
  r : Option Rat
  w : Nat
  f : Int
def PV.zero : PV := ⟨none, 0, 0⟩
/-- a bank -/
structure PB where
  mode : Int
  asks : List Bool
  used : Nat
  prog : List PI
  ins : Nat
  met : List Bool
  ops : Nat
  tie : Bool
  err : Int
def PB.new (m : Int) (asks : List Bool) : PB := ⟨m, asks, 0, [], 0, [], 0, false, 0⟩
def nilQ : Bool × List Int × List Int := (false, [], [])
def qOf (X : Rat) : Bool × List Int × List Int := (neg_ X, words X.num.natAbs, words X.den)
theorem qval_of (X : Rat) : qval (qOf X) = X := by unfold qval qOf; rw [val_words, val_words]; exact rq_self X
/-- the first error -/
def PB.bad (b : PB) (e : Int) : PV × PB := (PV.zero, { b with err := e })
/-- an instruction more -/
def PB.emit (b : PB) (x : PI) (di dn : Nat) : PV × PB := if 65536 ≤ b.prog.length then b.bad 13 else (⟨none, 0, b.prog.length⟩, { b with prog := b.prog ++ [x], ins := b.ins + di, ops := b.ops + dn })
/-- one operation on numbers, on doubles -/
def exOp (op : Int) (x y : Rat) : Except Int Rat := raw [] [] ⟨op, 0, 1, nilQ⟩ [x, y]
def flOp (op : Int) (x y : Nat) : Nat := flv [] ⟨op, 0, 1, nilQ⟩ [x, y]
def PB.lit (b : PB) (p q : Int) (w : Nat) : PV × PB :=
  if b.err ≠ 0 then (PV.zero, b)
  else if b.mode = 0 then (if q = 0 then b.bad 4 else (⟨some ((p : Rat) / (q : Rat)), 0, 0⟩, { b with ins := b.ins + 1 }))
  else if b.mode = 1 then (⟨none, cln w, 0⟩, { b with ins := b.ins + 1 })
  else b.emit ⟨1, b.ins, 0, nilQ⟩ 1 0
def PB.num (b : PB) (p q : Int) : PV × PB :=
  if b.err ≠ 0 then (PV.zero, b)
  else if q = 0 then b.bad 4
  else if b.mode = 0 then (⟨some ((p : Rat) / (q : Rat)), 0, 0⟩, b)
  else if b.mode = 1 then (⟨none, fromQ ((p : Rat) / (q : Rat)), 0⟩, b)
  else b.emit ⟨2, 0, 0, qOf ((p : Rat) / (q : Rat))⟩ 0 0
def PB.wrote (b : PB) (f : Int) : Bool := decide (0 ≤ f ∧ f < b.prog.length)
def PB.act (b : PB) (op : Int) (x y : PV) : PV × PB :=
  if b.err ≠ 0 then (PV.zero, b)
  else if b.mode = 0 then (match exOp op (x.r.getD 0) (y.r.getD 0) with | .error e => b.bad e | .ok X => (⟨some X, 0, 0⟩, { b with ops := b.ops + 1 }))
  else if b.mode = 1 then (⟨none, flOp op x.w y.w, 0⟩, { b with ops := b.ops + 1 })
  else if b.wrote x.f = false then b.bad 1
  else if arity op = 2 ∧ b.wrote y.f = false then b.bad 1
  else b.emit ⟨op, x.f, if arity op = 2 then y.f else 0, nilQ⟩ 0 1
/-- is x less than y, is y less than x? -/
def lessOf (m : Int) (x y : PV) : Bool := if m = 0 then decide (cmpQ (x.r.getD 0) (y.r.getD 0) < 0) else fless x.w y.w
def PB.less (b : PB) (x y : PV) : Bool × PB :=
  if b.err ≠ 0 then (false, b)
  else if 65536 ≤ b.met.length then (false, { b with err := 13 })
  else if b.mode = 2 then
    (if b.wrote x.f = false then (false, { b with err := 1 })
    else if b.wrote y.f = false then (false, { b with err := 1 })
    else if b.asks.length ≤ b.used then (false, { b with err := 20 })
    else (b.asks.getD b.used false, { b with used := b.used + 1, met := b.met ++ [b.asks.getD b.used false] }))
  else (lessOf b.mode x y, { b with met := b.met ++ [lessOf b.mode x y], tie := b.tie || (!lessOf b.mode x y && !lessOf b.mode y x) })

/-- what acts only add to -/
def Ext (b b' : PB) : Prop := b'.mode = b.mode ∧ b'.asks = b.asks ∧ b.used ≤ b'.used ∧ (∃ l, b'.prog = b.prog ++ l) ∧ b.ins ≤ b'.ins ∧ (∃ l, b'.met = b.met ++ l) ∧ b.ops ≤ b'.ops
theorem Ext.refl (b : PB) : Ext b b := ⟨rfl, rfl, Nat.le_refl _, ⟨[], (List.append_nil _).symm⟩, Nat.le_refl _, ⟨[], (List.append_nil _).symm⟩, Nat.le_refl _⟩
theorem Ext.trans {a b c : PB} (h : Ext a b) (k : Ext b c) : Ext a c := by
  obtain ⟨h1, h2, h3, ⟨l, h4⟩, h5, ⟨m, h6⟩, h7⟩ := h
  obtain ⟨k1, k2, k3, ⟨l', k4⟩, k5, ⟨m', k6⟩, k7⟩ := k
  exact ⟨k1.trans h1, k2.trans h2, Nat.le_trans h3 k3, ⟨l ++ l', by rw [k4, h4, List.append_assoc]⟩, Nat.le_trans h5 k5, ⟨m ++ m', by rw [k6, h6, List.append_assoc]⟩, Nat.le_trans h7 k7⟩
/-- an act: 0 a number, 1 a constant, 3 to 10 an operation, 11 a comparison, on what came a and b acts ago -/
structure PA where
  kind : Int
  a : Int
  b : Int
  p : Int
  q : Int
  w : Nat
/-- what came of acts -/
structure PR where
  vals : List PV
  truth : List Bool
def PR.back (r : PR) (n : Int) : PV := if n < 1 ∨ (r.vals.length : Int) < n then PV.zero else r.vals.getD (r.vals.length - n.toNat) PV.zero
/-- is an act left out? -/
def skips (n : Nat) (a : PA) : Prop := (1 < a.kind ∧ (a.a < 1 ∨ (n : Int) < a.a)) ∨ (((4 ≤ a.kind ∧ a.kind ≤ 7) ∨ a.kind = 11) ∧ (a.b < 1 ∨ (n : Int) < a.b))
instance (n : Nat) (a : PA) : Decidable (skips n a) := by unfold skips; infer_instance
def PR.put (r : PR) (v : PV) : PR := { r with vals := r.vals ++ [v] }
def PR.say (r : PR) (t : Bool) : PR := { r with truth := r.truth ++ [t] }
def actSt (s : PB × PR) (a : PA) : PB × PR :=
  if skips s.2.vals.length a then s
  else if a.kind = 0 then ((s.1.lit a.p a.q a.w).2, s.2.put (s.1.lit a.p a.q a.w).1)
  else if a.kind = 1 then ((s.1.num a.p a.q).2, s.2.put (s.1.num a.p a.q).1)
  else if 3 ≤ a.kind ∧ a.kind ≤ 10 then ((s.1.act a.kind (s.2.back a.a) (s.2.back a.b)).2, s.2.put (s.1.act a.kind (s.2.back a.a) (s.2.back a.b)).1)
  else if a.kind = 11 then ((s.1.less (s.2.back a.a) (s.2.back a.b)).2, s.2.say (s.1.less (s.2.back a.a) (s.2.back a.b)).1)
  else s
end Go.Proofs.YthpbaaanbimapaaGreatDoor
