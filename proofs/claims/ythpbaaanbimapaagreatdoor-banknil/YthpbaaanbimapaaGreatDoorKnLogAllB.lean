/-
  The program that a bank of mode Line writes has the values that the same acts return in the modes Exact and Float, given what the comparisons there came to. Plain. Conditions: as each lemma says.
-/
import Derived.Test.YthpbaaanbimapaaGreatDoorRatMulAllB
import Derived.Test.YthpbaaanbimapaaGreatDoorRefShiftAllB
import Derived.Deep.RegionHeld3
namespace Go.Proofs.YthpbaaanbimapaaGreatDoor
set_option maxRecDepth 100000
open Go.RowKit
set_option linter.unusedVariables false
set_option linter.unusedSimpArgs false

@[irreducible] def ONE : Nat := 4607182418800017408
@[irreducible] def TWO : Nat := 4611686018427387904
@[irreducible] def RR : Nat := 4609047870845172685
@[irreducible] def W1116 : Nat := 4604367669032910848
@[irreducible] def W32 : Nat := 4609434218613702656
@[irreducible] def W516 : Nat := 4599301119452119040
@[irreducible] def W14 : Nat := 4598175219545276416
@[irreducible] def W116 : Nat := 4589168020290535424
@[irreducible] def W132 : Nat := 4584664420663164928
@[irreducible] def W164 : Nat := 4580160821035794432
@[irreducible] def W38 : Nat := 4600427019358961664
@[irreducible] def W3364 : Nat := 4602819556661002240
@[irreducible] def W3464 : Nat := 4602960294149357568
@[irreducible] def W4464 : Nat := 4604367669032910848
@[irreducible] def W53 : Nat := 4368491638549381120
@[irreducible] def W55 : Nat := 4359484439294640128
@[irreducible] def W4 : Nat := 4616189618054758400
/-- 1 divided by 19, 17, .., 3 -/
def logC : List Nat := [4587745830934523688, 4588638185040256542, 4589468260265693457, 4590207312512236308, 4591215111030249286, 4592670820000712476, 4594314991293244562, 4596373779694328218, 4599676419421066581]
def logP (z : Nat) : Nat := logC.foldl (fun p c => fadd (fmul p z) c) 4587023449039406616
def logY (f : Nat) : Nat :=
  fadd (fadd (fdiv (fsub f ONE) (fadd TWO (fsub f ONE))) (fdiv (fsub f ONE) (fadd TWO (fsub f ONE))))
    (fmul (fadd (fdiv (fsub f ONE) (fadd TWO (fsub f ONE))) (fdiv (fsub f ONE) (fadd TWO (fsub f ONE))))
      (fmul (logP (fmul (fdiv (fsub f ONE) (fadd TWO (fsub f ONE))) (fdiv (fsub f ONE) (fadd TWO (fsub f ONE))))) (fmul (fdiv (fsub f ONE) (fadd TWO (fsub f ONE))) (fdiv (fsub f ONE) (fadd TWO (fsub f ONE))))))
def logZ (f : Nat) (k : Int) : Nat := if k = 0 then logY f else fadd (fmul (fint k) LL) (fadd (logY f) (fmul (fint k) ll))
/-! ### the sum over powers of z -/
/-! ### the logarithm near 1 -/
/-! ### the whole -/
def lf0 (x : Nat) : Nat := 4602678819172646912 + sig x * 2 ^ (53 - blen (sig x))
def lk0 (x : Nat) : Int := xpo x + blen (sig x) - 1
def lf (x : Nat) : Nat := if RR < lf0 x then lf0 x - 4503599627370496 else lf0 x
def lk (x : Nat) : Int := if RR < lf0 x then lk0 x + 1 else lk0 x
def flog (x : Nat) : Nat := if kd x = 0 then sg true INF else if kd x = 4 ∨ ng x = true then NAN else if kd x = 3 then x else logZ (lf x) (lk x)
end Go.Proofs.YthpbaaanbimapaaGreatDoor

namespace Go.Proofs.YthpbaaanbimapaaGreatDoor
set_option maxRecDepth 100000
open Go.RowKit
set_option linter.unusedVariables false
set_option linter.unusedSimpArgs false

/-! ### tables and sums -/
/-- the factorials of 0 to 13 -/
def facL : List Int := [1, 1, 2, 6, 24, 120, 720, 5040, 40320, 362880, 3628800, 39916800, 479001600, 6227020800]
/-! ### constants -/
/-! ### times powers of 2 -/
end Go.Proofs.YthpbaaanbimapaaGreatDoor

namespace Go.Proofs.YthpbaaanbimapaaGreatDoor
set_option maxRecDepth 100000
open Go.RowKit
set_option linter.unusedVariables false
set_option linter.unusedSimpArgs false

end Go.Proofs.YthpbaaanbimapaaGreatDoor

namespace Go.Proofs.YthpbaaanbimapaaGreatDoor
set_option maxRecDepth 100000
open Go.RowKit
set_option linter.unusedVariables false
set_option linter.unusedSimpArgs false

/-- the variable factorials holds the factorials -/
def Fac (w : World) : Prop := 0 < w.heap.size ∧ ∀ r, r < 14 → w.cell? ⟨0, r, none⟩ = some (.int .i64 (facL.getD r 0))
theorem Fac.below {w w' : World} (h : Fac w) (b : Below w.heap.size w w') : Fac w' :=
  ⟨Nat.lt_of_lt_of_le h.1 b.size, fun r hr => (b.cell (p := ⟨0, r, none⟩) h.1).trans (h.2 r hr)⟩
end Go.Proofs.YthpbaaanbimapaaGreatDoor

namespace Go.Proofs.YthpbaaanbimapaaGreatDoor
set_option maxRecDepth 100000
open Go.RowKit
set_option linter.unusedVariables false
set_option linter.unusedSimpArgs false

end Go.Proofs.YthpbaaanbimapaaGreatDoor

namespace Go.Proofs.YthpbaaanbimapaaGreatDoor
set_option maxRecDepth 100000
open Go.RowKit
set_option linter.unusedVariables false
set_option linter.unusedSimpArgs false

end Go.Proofs.YthpbaaanbimapaaGreatDoor

namespace Go.Proofs.YthpbaaanbimapaaGreatDoor
set_option maxRecDepth 100000
open Go.RowKit
set_option linter.unusedVariables false
set_option linter.unusedSimpArgs false

end Go.Proofs.YthpbaaanbimapaaGreatDoor

namespace Go.Proofs.YthpbaaanbimapaaGreatDoor
set_option maxRecDepth 100000
open Go.RowKit
set_option linter.unusedVariables false
set_option linter.unusedSimpArgs false

end Go.Proofs.YthpbaaanbimapaaGreatDoor

namespace Go.Proofs.YthpbaaanbimapaaGreatDoor
set_option maxRecDepth 100000
open Go.RowKit
set_option linter.unusedVariables false
set_option linter.unusedSimpArgs false

end Go.Proofs.YthpbaaanbimapaaGreatDoor

namespace Go.Proofs.YthpbaaanbimapaaGreatDoor
set_option maxRecDepth 100000
open Go.RowKit
set_option linter.unusedVariables false
set_option linter.unusedSimpArgs false

end Go.Proofs.YthpbaaanbimapaaGreatDoor

namespace Go.Proofs.YthpbaaanbimapaaGreatDoor
set_option maxRecDepth 100000
open Go.RowKit
set_option linter.unusedVariables false
set_option linter.unusedSimpArgs false

end Go.Proofs.YthpbaaanbimapaaGreatDoor

namespace Go.Proofs.YthpbaaanbimapaaGreatDoor
set_option maxRecDepth 100000
open Go.RowKit
set_option linter.unusedVariables false
set_option linter.unusedSimpArgs false

end Go.Proofs.YthpbaaanbimapaaGreatDoor

namespace Go.Proofs.YthpbaaanbimapaaGreatDoor
set_option maxRecDepth 100000
open Go.RowKit
set_option linter.unusedVariables false
set_option linter.unusedSimpArgs false

/-- naturals as words -/
def nts (v : List Nat) : List Int := v.map fun (n : Nat) => (n : Int)
/-- all are words -/
def AllW (v : List Nat) : Prop := ∀ x ∈ v, x < 18446744073709551616
theorem AllW.at_ {v : List Nat} (h : AllW v) (j : Nat) : v.getD j 0 < 18446744073709551616 := by
  rw [List.getD_eq_getElem?_getD]
  cases e : v[j]? with
  | none => show 0 < _; omega
  | some x => exact h x (List.mem_of_getElem? e)
theorem AllW.snoc {v : List Nat} {x : Nat} (h : AllW v) (hx : x < 18446744073709551616) : AllW (v ++ [x]) := by
  intro y hy
  rcases List.mem_append.1 hy with hy | hy
  · exact h y hy
  · rw [List.mem_singleton.1 hy]; exact hx
theorem AllW.us {v : List Nat} (h : AllW v) : ∀ x ∈ nts v, U x := by
  intro x hx
  unfold nts at hx
  obtain ⟨y, hy, rfl⟩ := List.mem_map.1 hx
  have := h y hy
  exact ⟨by omega, by omega⟩
/-- an instruction's double, by those of the ones ahead -/
def flv (ins : List Nat) (x : PI) (v : List Nat) : Nat :=
  if x.op = 1 then cln (ins.getD x.a.toNat 0)
  else if x.op = 2 then fromQ (qval x.q)
  else if x.op = 3 then flc (v.getD x.a.toNat 0)
  else if x.op = 4 then fadd (v.getD x.a.toNat 0) (v.getD x.b.toNat 0)
  else if x.op = 5 then fsub (v.getD x.a.toNat 0) (v.getD x.b.toNat 0)
  else if x.op = 6 then fmul (v.getD x.a.toNat 0) (v.getD x.b.toNat 0)
  else if x.op = 7 then fdiv (v.getD x.a.toNat 0) (v.getD x.b.toNat 0)
  else if x.op = 8 then fsqrt (v.getD x.a.toNat 0)
  else if x.op = 9 then fexp (v.getD x.a.toNat 0)
  else flog (v.getD x.a.toNat 0)
theorem flv_1 {ins v : List Nat} {a b : Int} {q : Bool × List Int × List Int} : flv ins ⟨1, a, b, q⟩ v = cln (ins.getD a.toNat 0) := by
  unfold flv
  simp only
  rw [if_pos trivial]
theorem flv_2 {ins v : List Nat} {a b : Int} {q : Bool × List Int × List Int} : flv ins ⟨2, a, b, q⟩ v = fromQ (qval q) := by
  unfold flv
  simp only
  rw [if_neg (by decide), if_pos trivial]
theorem flv_3 {ins v : List Nat} {a b : Int} {q : Bool × List Int × List Int} : flv ins ⟨3, a, b, q⟩ v = flc (v.getD a.toNat 0) := by
  unfold flv
  simp only
  rw [if_neg (by decide), if_neg (by decide), if_pos trivial]
theorem flv_4 {ins v : List Nat} {a b : Int} {q : Bool × List Int × List Int} : flv ins ⟨4, a, b, q⟩ v = fadd (v.getD a.toNat 0) (v.getD b.toNat 0) := by
  unfold flv
  simp only
  rw [if_neg (by decide), if_neg (by decide), if_neg (by decide), if_pos trivial]
theorem flv_5 {ins v : List Nat} {a b : Int} {q : Bool × List Int × List Int} : flv ins ⟨5, a, b, q⟩ v = fsub (v.getD a.toNat 0) (v.getD b.toNat 0) := by
  unfold flv
  simp only
  rw [if_neg (by decide), if_neg (by decide), if_neg (by decide), if_neg (by decide), if_pos trivial]
theorem flv_6 {ins v : List Nat} {a b : Int} {q : Bool × List Int × List Int} : flv ins ⟨6, a, b, q⟩ v = fmul (v.getD a.toNat 0) (v.getD b.toNat 0) := by
  unfold flv
  simp only
  rw [if_neg (by decide), if_neg (by decide), if_neg (by decide), if_neg (by decide), if_neg (by decide), if_pos trivial]
theorem flv_7 {ins v : List Nat} {a b : Int} {q : Bool × List Int × List Int} : flv ins ⟨7, a, b, q⟩ v = fdiv (v.getD a.toNat 0) (v.getD b.toNat 0) := by
  unfold flv
  simp only
  rw [if_neg (by decide), if_neg (by decide), if_neg (by decide), if_neg (by decide), if_neg (by decide), if_neg (by decide), if_pos trivial]
theorem flv_8 {ins v : List Nat} {a b : Int} {q : Bool × List Int × List Int} : flv ins ⟨8, a, b, q⟩ v = fsqrt (v.getD a.toNat 0) := by
  unfold flv
  simp only
  rw [if_neg (by decide), if_neg (by decide), if_neg (by decide), if_neg (by decide), if_neg (by decide), if_neg (by decide), if_neg (by decide), if_pos trivial]
theorem flv_9 {ins v : List Nat} {a b : Int} {q : Bool × List Int × List Int} : flv ins ⟨9, a, b, q⟩ v = fexp (v.getD a.toNat 0) := by
  unfold flv
  simp only
  rw [if_neg (by decide), if_neg (by decide), if_neg (by decide), if_neg (by decide), if_neg (by decide), if_neg (by decide), if_neg (by decide), if_neg (by decide), if_pos trivial]
theorem flv_10 {ins v : List Nat} {a b : Int} {q : Bool × List Int × List Int} : flv ins ⟨10, a, b, q⟩ v = flog (v.getD a.toNat 0) := by
  unfold flv
  simp only
  rw [if_neg (by decide), if_neg (by decide), if_neg (by decide), if_neg (by decide), if_neg (by decide), if_neg (by decide), if_neg (by decide), if_neg (by decide), if_neg (by decide)]
end Go.Proofs.YthpbaaanbimapaaGreatDoor

namespace Go.Proofs.YthpbaaanbimapaaGreatDoor
set_option maxRecDepth 100000
open Go.RowKit
set_option linter.unusedVariables false
set_option linter.unusedSimpArgs false

/-- a scalar: its number (none: the zero one, no number), its bits, its ref -/
structure PV where
  r : Option Rat
  w : Nat
  f : Int
def PV.zero : PV := ⟨none, 0, 0⟩
/-- a bank -/
structure PB where
  mode : Int
  asks : List Bool
  used : Nat
  prog : List PI
  ins : Nat
  met : List Bool
  ops : Nat
  tie : Bool
  err : Int
def PB.new (m : Int) (asks : List Bool) : PB := ⟨m, asks, 0, [], 0, [], 0, false, 0⟩
def nilQ : Bool × List Int × List Int := (false, [], [])
def qOf (X : Rat) : Bool × List Int × List Int := (neg_ X, words X.num.natAbs, words X.den)
theorem qval_of (X : Rat) : qval (qOf X) = X := by unfold qval qOf; rw [val_words, val_words]; exact rq_self X
/-- the first error -/
def PB.bad (b : PB) (e : Int) : PV × PB := (PV.zero, { b with err := e })
/-- an instruction more -/
def PB.emit (b : PB) (x : PI) (di dn : Nat) : PV × PB := if 65536 ≤ b.prog.length then b.bad 13 else (⟨none, 0, b.prog.length⟩, { b with prog := b.prog ++ [x], ins := b.ins + di, ops := b.ops + dn })
/-- one operation on numbers, on doubles -/
def exOp (op : Int) (x y : Rat) : Except Int Rat := raw [] [] ⟨op, 0, 1, nilQ⟩ [x, y]
def flOp (op : Int) (x y : Nat) : Nat := flv [] ⟨op, 0, 1, nilQ⟩ [x, y]
def PB.lit (b : PB) (p q : Int) (w : Nat) : PV × PB :=
  if b.err ≠ 0 then (PV.zero, b)
  else if b.mode = 0 then (if q = 0 then b.bad 4 else (⟨some ((p : Rat) / (q : Rat)), 0, 0⟩, { b with ins := b.ins + 1 }))
  else if b.mode = 1 then (⟨none, cln w, 0⟩, { b with ins := b.ins + 1 })
  else b.emit ⟨1, b.ins, 0, nilQ⟩ 1 0
def PB.num (b : PB) (p q : Int) : PV × PB :=
  if b.err ≠ 0 then (PV.zero, b)
  else if q = 0 then b.bad 4
  else if b.mode = 0 then (⟨some ((p : Rat) / (q : Rat)), 0, 0⟩, b)
  else if b.mode = 1 then (⟨none, fromQ ((p : Rat) / (q : Rat)), 0⟩, b)
  else b.emit ⟨2, 0, 0, qOf ((p : Rat) / (q : Rat))⟩ 0 0
def PB.wrote (b : PB) (f : Int) : Bool := decide (0 ≤ f ∧ f < b.prog.length)
def PB.act (b : PB) (op : Int) (x y : PV) : PV × PB :=
  if b.err ≠ 0 then (PV.zero, b)
  else if b.mode = 0 then (match exOp op (x.r.getD 0) (y.r.getD 0) with | .error e => b.bad e | .ok X => (⟨some X, 0, 0⟩, { b with ops := b.ops + 1 }))
  else if b.mode = 1 then (⟨none, flOp op x.w y.w, 0⟩, { b with ops := b.ops + 1 })
  else if b.wrote x.f = false then b.bad 1
  else if arity op = 2 ∧ b.wrote y.f = false then b.bad 1
  else b.emit ⟨op, x.f, if arity op = 2 then y.f else 0, nilQ⟩ 0 1
/-- is x less than y, is y less than x? -/
def lessOf (m : Int) (x y : PV) : Bool := if m = 0 then decide (cmpQ (x.r.getD 0) (y.r.getD 0) < 0) else fless x.w y.w
def PB.less (b : PB) (x y : PV) : Bool × PB :=
  if b.err ≠ 0 then (false, b)
  else if 65536 ≤ b.met.length then (false, { b with err := 13 })
  else if b.mode = 2 then
    (if b.wrote x.f = false then (false, { b with err := 1 })
    else if b.wrote y.f = false then (false, { b with err := 1 })
    else if b.asks.length ≤ b.used then (false, { b with err := 20 })
    else (b.asks.getD b.used false, { b with used := b.used + 1, met := b.met ++ [b.asks.getD b.used false] }))
  else (lessOf b.mode x y, { b with met := b.met ++ [lessOf b.mode x y], tie := b.tie || (!lessOf b.mode x y && !lessOf b.mode y x) })

/-- what acts only add to -/
def Ext (b b' : PB) : Prop := b'.mode = b.mode ∧ b'.asks = b.asks ∧ b.used ≤ b'.used ∧ (∃ l, b'.prog = b.prog ++ l) ∧ b.ins ≤ b'.ins ∧ (∃ l, b'.met = b.met ++ l) ∧ b.ops ≤ b'.ops
theorem Ext.refl (b : PB) : Ext b b := ⟨rfl, rfl, Nat.le_refl _, ⟨[], (List.append_nil _).symm⟩, Nat.le_refl _, ⟨[], (List.append_nil _).symm⟩, Nat.le_refl _⟩
theorem Ext.trans {a b c : PB} (h : Ext a b) (k : Ext b c) : Ext a c := by
  obtain ⟨h1, h2, h3, ⟨l, h4⟩, h5, ⟨m, h6⟩, h7⟩ := h
  obtain ⟨k1, k2, k3, ⟨l', k4⟩, k5, ⟨m', k6⟩, k7⟩ := k
  exact ⟨k1.trans h1, k2.trans h2, Nat.le_trans h3 k3, ⟨l ++ l', by rw [k4, h4, List.append_assoc]⟩, Nat.le_trans h5 k5, ⟨m ++ m', by rw [k6, h6, List.append_assoc]⟩, Nat.le_trans h7 k7⟩
/-- an act: 0 a number, 1 a constant, 3 to 10 an operation, 11 a comparison, on what came a and b acts ago -/
structure PA where
  kind : Int
  a : Int
  b : Int
  p : Int
  q : Int
  w : Nat
/-- what came of acts -/
structure PR where
  vals : List PV
  truth : List Bool
def PR.back (r : PR) (n : Int) : PV := if n < 1 ∨ (r.vals.length : Int) < n then PV.zero else r.vals.getD (r.vals.length - n.toNat) PV.zero
/-- is an act left out? -/
def skips (n : Nat) (a : PA) : Prop := (1 < a.kind ∧ (a.a < 1 ∨ (n : Int) < a.a)) ∨ (((4 ≤ a.kind ∧ a.kind ≤ 7) ∨ a.kind = 11) ∧ (a.b < 1 ∨ (n : Int) < a.b))
instance (n : Nat) (a : PA) : Decidable (skips n a) := by unfold skips; infer_instance
def PR.put (r : PR) (v : PV) : PR := { r with vals := r.vals ++ [v] }
def PR.say (r : PR) (t : Bool) : PR := { r with truth := r.truth ++ [t] }
def actSt (s : PB × PR) (a : PA) : PB × PR :=
  if skips s.2.vals.length a then s
  else if a.kind = 0 then ((s.1.lit a.p a.q a.w).2, s.2.put (s.1.lit a.p a.q a.w).1)
  else if a.kind = 1 then ((s.1.num a.p a.q).2, s.2.put (s.1.num a.p a.q).1)
  else if 3 ≤ a.kind ∧ a.kind ≤ 10 then ((s.1.act a.kind (s.2.back a.a) (s.2.back a.b)).2, s.2.put (s.1.act a.kind (s.2.back a.a) (s.2.back a.b)).1)
  else if a.kind = 11 then ((s.1.less (s.2.back a.a) (s.2.back a.b)).2, s.2.say (s.1.less (s.2.back a.a) (s.2.back a.b)).1)
  else s
end Go.Proofs.YthpbaaanbimapaaGreatDoor

namespace Go.Proofs.YthpbaaanbimapaaGreatDoor
set_option maxRecDepth 100000
open Go.RowKit
set_option linter.unusedVariables false
set_option linter.unusedSimpArgs false

theorem ops_all {op : Int} (h : 3 ≤ op ∧ op ≤ 10) : op = 3 ∨ op = 4 ∨ op = 5 ∨ op = 6 ∨ op = 7 ∨ op = 8 ∨ op = 9 ∨ op = 10 := by omega
theorem raw_op {is v : List Rat} {op a b : Int} {y : Rat} (h : 3 ≤ op ∧ op ≤ 10) (hy : arity op = 2 → y = v.getD b.toNat 0) : raw is [] ⟨op, a, b, nilQ⟩ v = exOp op (v.getD a.toNat 0) y := by
  unfold exOp
  rcases ops_all h with rfl | rfl | rfl | rfl | rfl | rfl | rfl | rfl
  · rw [raw_neg, raw_neg]; rfl
  · rw [raw_add, raw_add, hy (by decide)]; rfl
  · rw [raw_sub, raw_sub, hy (by decide)]; rfl
  · rw [raw_mul, raw_mul, hy (by decide)]; rfl
  · rw [hy (by decide)]
    by_cases h0 : v.getD b.toNat 0 = 0
    · rw [raw_div_no h0, raw_div_no (by exact h0)]
    · rw [raw_div h0, raw_div (by exact h0)]; rfl
  · rw [raw_form_no (by decide) (by decide), raw_form_no (by decide) (by decide)]
  · rw [raw_form_no (by decide) (by decide), raw_form_no (by decide) (by decide)]
  · rw [raw_form_no (by decide) (by decide), raw_form_no (by decide) (by decide)]
theorem flv_op {ws v : List Nat} {op a b : Int} {y : Nat} (h : 3 ≤ op ∧ op ≤ 10) (hy : arity op = 2 → y = v.getD b.toNat 0) : flv ws ⟨op, a, b, nilQ⟩ v = flOp op (v.getD a.toNat 0) y := by
  unfold flOp
  rcases ops_all h with rfl | rfl | rfl | rfl | rfl | rfl | rfl | rfl
  · rw [flv_3, flv_3]; rfl
  · rw [flv_4, flv_4, hy (by decide)]; rfl
  · rw [flv_5, flv_5, hy (by decide)]; rfl
  · rw [flv_6, flv_6, hy (by decide)]; rfl
  · rw [flv_7, flv_7, hy (by decide)]; rfl
  · rw [flv_8, flv_8]; rfl
  · rw [flv_9, flv_9]; rfl
  · rw [flv_10, flv_10]; rfl

/-- the inputs that acts ask for -/
def inActs (l : List PA) : List PA := l.filter fun a => decide (a.kind = 0)
def isOf (l : List PA) : List Rat := (inActs l).map fun a => (a.p : Rat) / (a.q : Rat)
def wsOf (l : List PA) : List Nat := (inActs l).map fun a => a.w
theorem isOf_len (l : List PA) : (isOf l).length = (inActs l).length := by unfold isOf; rw [List.length_map]
theorem wsOf_len (l : List PA) : (wsOf l).length = (inActs l).length := by unfold wsOf; rw [List.length_map]
theorem part_at (l : List PA) {k : Nat} {a : PA} (h : l[k]? = some a) : l = l.take k ++ a :: l.drop (k + 1) := by
  have hk : k < l.length := by
    rcases Nat.lt_or_ge k l.length with h1 | h1
    · exact h1
    · rw [List.getElem?_eq_none h1] at h; cases h
  rw [List.getElem?_eq_getElem hk] at h
  injection h with h
  conv => lhs; rw [← List.take_append_drop k l, List.drop_eq_getElem_cons hk, h]
theorem inActs_at (l : List PA) {k : Nat} {a : PA} (h : l[k]? = some a) (h0 : a.kind = 0) : (inActs l)[(inActs (l.take k)).length]? = some a := by
  have e : inActs l = inActs (l.take k) ++ (a :: inActs (l.drop (k + 1))) := by
    conv => lhs; rw [part_at l h]
    unfold inActs
    rw [List.filter_append, List.filter_cons, if_pos (by simp [h0])]
  rw [e, List.getElem?_append_right (Nat.le_refl _), Nat.sub_self]
  rfl
theorem inActs_next (l : List PA) {k : Nat} {a : PA} (h : l[k]? = some a) : (inActs (l.take (k + 1))).length = (inActs (l.take k)).length + (if a.kind = 0 then 1 else 0) := by
  rw [List.take_add_one, h]
  unfold inActs
  rw [List.filter_append, List.length_append]
  congr 1
  by_cases h0 : a.kind = 0
  · rw [if_pos h0]; simp [h0]
  · rw [if_neg h0]; simp [h0]

/-- the numbers, the doubles of scalars -/
def ratsOf (v : List PV) : List Rat := v.map fun x => x.r.getD 0
def bitsOf (v : List PV) : List Nat := v.map fun x => x.w
theorem ratsOf_at (v : List PV) {i : Nat} (h : i < v.length) : (ratsOf v).getD i 0 = (v.getD i PV.zero).r.getD 0 := by
  unfold ratsOf
  rw [List.getD_eq_getElem?_getD, List.getElem?_map, List.getElem?_eq_getElem h, List.getD_eq_getElem?_getD, List.getElem?_eq_getElem h]
  rfl
theorem bitsOf_at (v : List PV) {i : Nat} (h : i < v.length) : (bitsOf v).getD i 0 = (v.getD i PV.zero).w := by
  unfold bitsOf
  rw [List.getD_eq_getElem?_getD, List.getElem?_map, List.getElem?_eq_getElem h, List.getD_eq_getElem?_getD, List.getElem?_eq_getElem h]
  rfl

/-- a bank of mode Exact or Float and one of mode Line behind the same acts -/
structure Sim (M : List Bool) (is : List Rat) (ws : List Nat) (b c : PB) (x y : PR) : Prop where
  bm : b.mode = 0 ∨ b.mode = 1
  be : b.err = 0
  cm : c.mode = 2
  ce : c.err = 0
  ca : c.asks = M
  cu : c.used = b.met.length
  ct : c.met = b.met
  co : c.ops = b.ops
  hx : x.vals.length = c.prog.length
  hy : y.vals.length = c.prog.length
  ht : y.truth = x.truth
  rf : ∀ i, i < c.prog.length → (y.vals.getD i PV.zero).f = i
  ft : ∀ i, i < c.prog.length → fits vq nq (c.prog.getD i PI.nil) i
  v0 : b.mode = 0 → ∀ i, i < c.prog.length → ∃ X, x.vals.getD i PV.zero = ⟨some X, 0, 0⟩ ∧ raw is [] (c.prog.getD i PI.nil) (ratsOf (x.vals.take i)) = .ok X
  v1 : b.mode = 1 → ∀ i, i < c.prog.length → (x.vals.getD i PV.zero).w = flv ws (c.prog.getD i PI.nil) (bitsOf (x.vals.take i)) ∧ ((c.prog.getD i PI.nil).op = 1 → (c.prog.getD i PI.nil).a.toNat < ws.length)
section
variable {M : List Bool} {is : List Rat} {ws : List Nat} {b c : PB} {x y : PR}
/-- a scalar more, and an instruction more -/
theorem Sim.push (S : Sim M is ws b c x y) (hl : c.prog.length < 65536) {z : PI} {v : PV} {di dn : Nat} (hf : fits vq nq z c.prog.length)
    (h0 : b.mode = 0 → ∃ X, v = ⟨some X, 0, 0⟩ ∧ raw is [] z (ratsOf x.vals) = .ok X) (h1 : b.mode = 1 → v.w = flv ws z (bitsOf x.vals) ∧ (z.op = 1 → z.a.toNat < ws.length)) :
    Sim M is ws { b with ops := b.ops + dn } (c.emit z di dn).2 (x.put v) (y.put (c.emit z di dn).1) := by
  have ee : c.emit z di dn = (⟨none, 0, c.prog.length⟩, { c with prog := c.prog ++ [z], ins := c.ins + di, ops := c.ops + dn }) := by unfold PB.emit; rw [if_neg (by omega)]
  rw [ee]
  have hln : (c.prog ++ [z]).length = c.prog.length + 1 := by rw [List.length_append]; rfl
  refine ⟨S.bm, S.be, S.cm, S.ce, S.ca, S.cu, S.ct, by show c.ops + dn = b.ops + dn; rw [S.co], ?_, ?_, S.ht, ?_, ?_, ?_, ?_⟩
  · show (x.vals ++ [v]).length = (c.prog ++ [z]).length
    rw [hln, List.length_append, S.hx]; rfl
  · show (y.vals ++ [_]).length = (c.prog ++ [z]).length
    rw [hln, List.length_append, S.hy]; rfl
  · intro i hi
    have hi' : i < c.prog.length + 1 := by rw [← hln]; exact hi
    show ((y.vals ++ [(⟨none, 0, c.prog.length⟩ : PV)]).getD i PV.zero).f = i
    rcases Nat.lt_or_eq_of_le (Nat.le_of_lt_succ hi') with g | g
    · rw [getD_app_left _ _ (by rw [S.hy]; exact g)]; exact S.rf i g
    · rw [getD_app_end _ _ (by rw [S.hy, g])]
      exact congrArg (fun n : Nat => (n : Int)) g.symm
  · intro i hi
    have hi' : i < c.prog.length + 1 := by rw [← hln]; exact hi
    show fits vq nq ((c.prog ++ [z]).getD i PI.nil) i
    rcases Nat.lt_or_eq_of_le (Nat.le_of_lt_succ hi') with g | g
    · rw [getD_app_left _ _ g]; exact S.ft i g
    · rw [getD_app_end _ _ g.symm, g]; exact hf
  · intro hm i hi
    have hi' : i < c.prog.length + 1 := by rw [← hln]; exact hi
    show ∃ X, (x.vals ++ [v]).getD i PV.zero = _ ∧ raw is [] ((c.prog ++ [z]).getD i PI.nil) (ratsOf ((x.vals ++ [v]).take i)) = _
    rw [List.take_append_of_le_length (by rw [S.hx]; omega)]
    rcases Nat.lt_or_eq_of_le (Nat.le_of_lt_succ hi') with g | g
    · rw [getD_app_left _ _ g, getD_app_left _ _ (by rw [S.hx]; exact g)]; exact S.v0 hm i g
    · rw [getD_app_end _ _ g.symm, getD_app_end _ _ (by rw [S.hx, g]), g, ← S.hx, List.take_length]; exact h0 hm
  · intro hm i hi
    have hi' : i < c.prog.length + 1 := by rw [← hln]; exact hi
    show ((x.vals ++ [v]).getD i PV.zero).w = flv ws ((c.prog ++ [z]).getD i PI.nil) (bitsOf ((x.vals ++ [v]).take i)) ∧ (((c.prog ++ [z]).getD i PI.nil).op = 1 → ((c.prog ++ [z]).getD i PI.nil).a.toNat < ws.length)
    rw [List.take_append_of_le_length (by rw [S.hx]; omega)]
    rcases Nat.lt_or_eq_of_le (Nat.le_of_lt_succ hi') with g | g
    · rw [getD_app_left _ _ g, getD_app_left _ _ (by rw [S.hx]; exact g)]; exact S.v1 hm i g
    · rw [getD_app_end _ _ g.symm, getD_app_end _ _ (by rw [S.hx, g]), g, ← S.hx, List.take_length]; exact h1 hm
/-- a comparison more -/
theorem Sim.say (S : Sim M is ws b c x y) (hl : b.met.length < 65536) {t tie : Bool} (hM : ∃ l, M = (b.met ++ [t]) ++ l) {u v : PV} (hu : c.wrote u.f = true) (hv : c.wrote v.f = true) :
    Sim M is ws { b with met := b.met ++ [t], tie := tie } (c.less u v).2 (x.say t) (y.say (c.less u v).1) := by
  obtain ⟨l, hM⟩ := hM
  have hlen : b.met.length < M.length := by
    rw [hM, List.length_append, List.length_append]
    show b.met.length < b.met.length + 1 + l.length
    omega
  have hat : M.getD b.met.length false = t := by
    rw [hM, List.append_assoc, List.getD_eq_getElem?_getD, List.getElem?_append_right (Nat.le_refl _), Nat.sub_self]; rfl
  have ee : c.less u v = (t, { c with used := c.used + 1, met := c.met ++ [t] }) := by
    unfold PB.less
    rw [if_neg (by rw [S.ce]; simp), if_neg (by rw [S.ct]; omega), if_pos S.cm, if_neg (by rw [hu]; simp), if_neg (by rw [hv]; simp), if_neg (by rw [S.ca, S.cu]; omega), S.ca, S.cu, hat]
  rw [ee]
  refine ⟨S.bm, S.be, S.cm, S.ce, S.ca, ?_, ?_, S.co, S.hx, S.hy, ?_, S.rf, S.ft, S.v0, S.v1⟩
  · show c.used + 1 = (b.met ++ [t]).length
    rw [S.cu, List.length_append]; rfl
  · show c.met ++ [t] = b.met ++ [t]
    rw [S.ct]
  · show y.truth ++ [t] = x.truth ++ [t]
    rw [S.ht]
end
theorem back_in (r : PR) {n : Int} (h1 : 1 ≤ n) (h2 : n ≤ r.vals.length) : r.back n = r.vals.getD (r.vals.length - n.toNat) PV.zero ∧ r.vals.length - n.toNat < r.vals.length := by
  refine ⟨?_, by omega⟩
  unfold PR.back
  rw [if_neg (by omega)]
theorem words_sz (v : Nat) : sz (words v) = (words v).length := by
  have e := words_trim v
  unfold trim at e
  have e2 := congrArg List.length e
  rw [List.length_take] at e2
  have := sz_le (words v)
  omega
theorem qOf_right (X : Rat) : vq (qOf X) = true := by
  unfold vq qOf rightB
  refine decide_eq_true ⟨words_sz _, words_sz _, ?_, ?_, ?_⟩
  · rw [val_words]; exact den_ne X
  · rintro ⟨h1, h2⟩
    rw [val_words] at h2
    rw [neg_zero_ X h2] at h1
    cases h1
  · rw [val_words, val_words]; exact gcd_num_den X

theorem isOf_at {l : List PA} {k : Nat} {a : PA} (h : l[k]? = some a) (h0 : a.kind = 0) : (isOf l).getD (inActs (l.take k)).length 0 = (a.p : Rat) / (a.q : Rat) ∧ (inActs (l.take k)).length < (isOf l).length := by
  have e := inActs_at l h h0
  have hlt : (inActs (l.take k)).length < (inActs l).length := by
    rcases Nat.lt_or_ge (inActs (l.take k)).length (inActs l).length with g | g
    · exact g
    · rw [List.getElem?_eq_none g] at e; cases e
  refine ⟨?_, by rw [isOf_len]; exact hlt⟩
  unfold isOf
  rw [List.getD_eq_getElem?_getD, List.getElem?_map, e]
  rfl
theorem wsOf_at {l : List PA} {k : Nat} {a : PA} (h : l[k]? = some a) (h0 : a.kind = 0) : (wsOf l).getD (inActs (l.take k)).length 0 = a.w ∧ (inActs (l.take k)).length < (wsOf l).length := by
  have e := inActs_at l h h0
  have hlt : (inActs (l.take k)).length < (inActs l).length := by
    rcases Nat.lt_or_ge (inActs (l.take k)).length (inActs l).length with g | g
    · exact g
    · rw [List.getElem?_eq_none g] at e; cases e
  refine ⟨?_, by rw [wsOf_len]; exact hlt⟩
  unfold wsOf
  rw [List.getD_eq_getElem?_getD, List.getElem?_map, e]
  rfl
theorem skips0 {n : Nat} {a : PA} (h : a.kind = 0) : ¬ skips n a := by
  unfold skips
  omega
theorem emit_ins {c : PB} (hl : c.prog.length < 65536) (z : PI) (di dn : Nat) : (c.emit z di dn).2.ins = c.ins + di ∧ (c.emit z di dn).2.prog.length = c.prog.length + 1 := by
  unfold PB.emit
  rw [if_neg (by omega)]
  exact ⟨rfl, by show (c.prog ++ [z]).length = _; rw [List.length_append]; rfl⟩
theorem less_ins (c : PB) (u v : PV) : (c.less u v).2.ins = c.ins ∧ (c.less u v).2.prog = c.prog := by
  unfold PB.less
  split
  · exact ⟨rfl, rfl⟩
  split
  · exact ⟨rfl, rfl⟩
  split
  · split
    · exact ⟨rfl, rfl⟩
    split
    · exact ⟨rfl, rfl⟩
    split
    · exact ⟨rfl, rfl⟩
    · exact ⟨rfl, rfl⟩
  · exact ⟨rfl, rfl⟩
section
variable {M : List Bool} {l : List PA} {b c : PB} {x y : PR}
/-- a scalar that came so many acts ago, on both sides -/
theorem Sim.back {is : List Rat} {ws : List Nat} (S : Sim M is ws b c x y) {n : Int} (h1 : 1 ≤ n) (h2 : n ≤ x.vals.length) :
    (y.back n).f = ((x.vals.length - n.toNat : Nat) : Int) ∧ c.wrote (y.back n).f = true ∧ x.back n = x.vals.getD (x.vals.length - n.toNat) PV.zero ∧ x.vals.length - n.toNat < x.vals.length := by
  have hyx : y.vals.length = x.vals.length := by rw [S.hx, S.hy]
  obtain ⟨e1, e2⟩ := back_in x h1 h2
  obtain ⟨e3, e4⟩ := back_in y h1 (by rw [hyx]; exact h2)
  rw [hyx] at e3 e4
  have e5 := S.rf (x.vals.length - n.toNat) (by rw [← S.hx]; exact e2)
  rw [← e3] at e5
  refine ⟨e5, ?_, e1, e2⟩
  unfold PB.wrote
  rw [e5]
  refine decide_eq_true ⟨by omega, ?_⟩
  rw [← S.hx]
  omega
theorem Sim.step (S : Sim M (isOf l) (wsOf l) b c x y) {k : Nat} {a : PA} (ha : l[k]? = some a) (hk : k < 65536) (hi : c.ins = (inActs (l.take k)).length) (hl : c.prog.length ≤ k) (hmt : b.met.length ≤ k)
    (he : (actSt (b, x) a).1.err = 0) (hM : ∃ l', M = (actSt (b, x) a).1.met ++ l') :
    Sim M (isOf l) (wsOf l) (actSt (b, x) a).1 (actSt (c, y) a).1 (actSt (b, x) a).2 (actSt (c, y) a).2 ∧ (actSt (c, y) a).1.ins = (inActs (l.take (k + 1))).length ∧ (actSt (c, y) a).1.prog.length ≤ k + 1 ∧ (actSt (b, x) a).1.met.length ≤ k + 1 := by
  have hyx : y.vals.length = x.vals.length := by rw [S.hx, S.hy]
  have hin := inActs_next l ha
  have hlk : (inActs (l.take k)).length ≤ k := Nat.le_trans (List.length_filter_le _ _) (by rw [List.length_take]; omega)
  have hne : ¬ b.err ≠ 0 := by rw [S.be]; simp
  have hnc : ¬ c.err ≠ 0 := by rw [S.ce]; simp
  have hcm0 : ¬ c.mode = 0 := by rw [S.cm]; decide
  have hcm1 : ¬ c.mode = 1 := by rw [S.cm]; decide
  unfold actSt at he hM ⊢
  simp only [hyx] at he hM ⊢
  by_cases hs : skips x.vals.length a
  · rw [if_pos hs] at he hM ⊢
    rw [if_pos hs]
    rw [if_neg (fun h => skips0 h hs)] at hin
    exact ⟨S, by rw [hin, hi]; rfl, by show c.prog.length ≤ _; omega, by show b.met.length ≤ _; omega⟩
  rw [if_neg hs] at he hM ⊢
  rw [if_neg hs]
  by_cases h0 : a.kind = 0
  · rw [if_pos h0] at he hM hin ⊢
    rw [if_pos h0]
    have ec : c.lit a.p a.q a.w = c.emit ⟨1, c.ins, 0, nilQ⟩ 1 0 := by unfold PB.lit; rw [if_neg hnc, if_neg hcm0, if_neg hcm1]
    rw [ec]
    obtain ⟨i1, i2⟩ := emit_ins (c := c) (by omega) ⟨1, c.ins, 0, nilQ⟩ 1 0
    obtain ⟨g1, g2⟩ := isOf_at ha h0
    obtain ⟨g3, g4⟩ := wsOf_at ha h0
    have hb : ∃ v, b.lit a.p a.q a.w = (v, { b with ins := b.ins + 1 }) ∧ (b.mode = 0 → v = ⟨some ((a.p : Rat) / (a.q : Rat)), 0, 0⟩) ∧ (b.mode = 1 → v.w = cln a.w) := by
      unfold PB.lit at he ⊢
      rw [if_neg hne] at he ⊢
      rcases S.bm with m | m
      · rw [if_pos m] at he ⊢
        by_cases hq : a.q = 0
        · rw [if_pos hq] at he; cases he
        · rw [if_neg hq]
          exact ⟨_, rfl, fun _ => rfl, fun h => by rw [m] at h; cases h⟩
      · rw [if_neg (by rw [m]; decide), if_pos m]
        exact ⟨_, rfl, fun h => (by rw [m] at h; cases h), fun _ => rfl⟩
    obtain ⟨v, ev, v0, v1⟩ := hb
    rw [ev]
    refine ⟨?_, by show (c.emit _ 1 0).2.ins = _; rw [i1, hin, hi], by show (c.emit _ 1 0).2.prog.length ≤ _; omega, by show b.met.length ≤ _; omega⟩
    have S2 : Sim M (isOf l) (wsOf l) { b with ins := b.ins + 1 } c x y := ⟨S.bm, S.be, S.cm, S.ce, S.ca, S.cu, S.ct, S.co, S.hx, S.hy, S.ht, S.rf, S.ft, S.v0, S.v1⟩
    refine Sim.push (dn := 0) S2 (by omega) ?_ (fun m => ⟨_, v0 m, ?_⟩) (fun m => ⟨?_, fun _ => ?_⟩)
    · unfold fits
      rw [if_neg (by decide : ¬ (1 : Int) = 2)]
      refine ⟨show nq nilQ = true by decide, ?_⟩
      rw [if_pos rfl]
      show (0 : Int) ≤ (c.ins : Int) ∧ (c.ins : Int) < 65536 ∧ (0 : Int) = 0
      omega
    · rw [hi, raw_in (by show ((inActs (l.take k)).length : Int).toNat < _; rw [Int.toNat_natCast]; exact g2), Int.toNat_natCast, g1]
    · rw [v1 m, hi, flv_1, Int.toNat_natCast, g3]
    · show (c.ins : Int).toNat < _
      rw [Int.toNat_natCast, hi]; exact g4
  rw [if_neg h0] at he hM hin ⊢
  rw [if_neg h0]
  by_cases h1 : a.kind = 1
  · rw [if_pos h1] at he hM ⊢
    rw [if_pos h1]
    by_cases hq : a.q = 0
    · exfalso
      unfold PB.num at he
      rw [if_neg hne, if_pos hq] at he
      cases he
    have ec : c.num a.p a.q = c.emit ⟨2, 0, 0, qOf ((a.p : Rat) / (a.q : Rat))⟩ 0 0 := by unfold PB.num; rw [if_neg hnc, if_neg hq, if_neg hcm0, if_neg hcm1]
    rw [ec]
    obtain ⟨i1, i2⟩ := emit_ins (c := c) (by omega) ⟨2, 0, 0, qOf ((a.p : Rat) / (a.q : Rat))⟩ 0 0
    have hb : ∃ v, b.num a.p a.q = (v, b) ∧ (b.mode = 0 → v = ⟨some ((a.p : Rat) / (a.q : Rat)), 0, 0⟩) ∧ (b.mode = 1 → v.w = fromQ ((a.p : Rat) / (a.q : Rat))) := by
      unfold PB.num
      rw [if_neg hne, if_neg hq]
      rcases S.bm with m | m
      · rw [if_pos m]
        exact ⟨_, rfl, fun _ => rfl, fun h => by rw [m] at h; cases h⟩
      · rw [if_neg (by rw [m]; decide), if_pos m]
        exact ⟨_, rfl, fun h => (by rw [m] at h; cases h), fun _ => rfl⟩
    obtain ⟨v, ev, v0, v1⟩ := hb
    rw [ev]
    refine ⟨?_, by show (c.emit _ 0 0).2.ins = _; rw [i1, hin, hi], by show (c.emit _ 0 0).2.prog.length ≤ _; omega, by show b.met.length ≤ _; omega⟩
    refine Sim.push (dn := 0) S (by omega) ?_ (fun m => ⟨_, v0 m, ?_⟩) (fun m => ⟨?_, fun h => by cases h⟩)
    · unfold fits
      rw [if_pos rfl]
      exact ⟨rfl, rfl, qOf_right _⟩
    · rw [raw_const, qval_of]
    · rw [v1 m, flv_2, qval_of]
  rw [if_neg h1] at he hM ⊢
  rw [if_neg h1]
  by_cases h2 : 3 ≤ a.kind ∧ a.kind ≤ 10
  · rw [if_pos h2] at he hM ⊢
    rw [if_pos h2]
    have hA : 1 ≤ a.a ∧ a.a ≤ x.vals.length := by unfold skips at hs; omega
    have hB : arity a.kind = 2 → 1 ≤ a.b ∧ a.b ≤ x.vals.length := by
      intro har
      have : 4 ≤ a.kind ∧ a.kind ≤ 7 := by
        unfold arity at har
        split at har
        · cases har
        · split at har
          · cases har
          · split at har
            · assumption
            · cases har
      unfold skips at hs
      omega
    obtain ⟨u1, u2, u3, u4⟩ := S.back hA.1 hA.2
    have ec : c.act a.kind (y.back a.a) (y.back a.b) = c.emit ⟨a.kind, (y.back a.a).f, if arity a.kind = 2 then (y.back a.b).f else 0, nilQ⟩ 0 1 := by
      unfold PB.act
      rw [if_neg hnc, if_neg hcm0, if_neg hcm1, if_neg (by rw [u2]; simp)]
      by_cases har : arity a.kind = 2
      · obtain ⟨w1, w2, w3, w4⟩ := S.back (hB har).1 (hB har).2
        rw [if_neg (by rw [w2]; simp)]
      · rw [if_neg (fun h => har h.1)]
    rw [ec]
    generalize hz : (⟨a.kind, (y.back a.a).f, if arity a.kind = 2 then (y.back a.b).f else 0, nilQ⟩ : PI) = z
    obtain ⟨i1, i2⟩ := emit_ins (c := c) (by omega) z 0 1
    have hb : ∃ v, b.act a.kind (x.back a.a) (x.back a.b) = (v, { b with ops := b.ops + 1 }) ∧ (b.mode = 0 → ∃ X, v = ⟨some X, 0, 0⟩ ∧ exOp a.kind ((x.back a.a).r.getD 0) ((x.back a.b).r.getD 0) = .ok X) ∧ (b.mode = 1 → v.w = flOp a.kind (x.back a.a).w (x.back a.b).w) := by
      unfold PB.act at he ⊢
      rw [if_neg hne] at he ⊢
      rcases S.bm with m | m
      · rw [if_pos m] at he ⊢
        cases hx : exOp a.kind ((x.back a.a).r.getD 0) ((x.back a.b).r.getD 0) with
        | error e =>
          rw [hx] at he
          have he' : e = 0 := he
          rcases raw_err hx with h | h | h <;> omega
        | ok X => exact ⟨_, rfl, fun _ => ⟨X, rfl, rfl⟩, fun h => by rw [m] at h; cases h⟩
      · rw [if_neg (by rw [m]; decide), if_pos m]
        exact ⟨_, rfl, fun h => (by rw [m] at h; cases h), fun _ => rfl⟩
    obtain ⟨v, ev, v0, v1⟩ := hb
    rw [ev]
    have hzb : arity a.kind = 2 → z.b.toNat = x.vals.length - a.b.toNat ∧ x.back a.b = x.vals.getD (x.vals.length - a.b.toNat) PV.zero ∧ x.vals.length - a.b.toNat < x.vals.length ∧ z.b = ((x.vals.length - a.b.toNat : Nat) : Int) := by
      intro har
      obtain ⟨w1, w2, w3, w4⟩ := S.back (hB har).1 (hB har).2
      have e : z.b = ((x.vals.length - a.b.toNat : Nat) : Int) := by rw [← hz]; show (if arity a.kind = 2 then (y.back a.b).f else 0) = _; rw [if_pos har, w1]
      exact ⟨by rw [e, Int.toNat_natCast], w3, w4, e⟩
    have hza : z.a = ((x.vals.length - a.a.toNat : Nat) : Int) := by rw [← hz]; exact u1
    have hzo : z.op = a.kind := by rw [← hz]
    have hz1 : arity a.kind ≠ 2 → z.b = 0 := fun har => by rw [← hz]; show (if arity a.kind = 2 then _ else (0 : Int)) = 0; rw [if_neg har]
    have hzq : z = ⟨a.kind, z.a, z.b, nilQ⟩ := by rw [← hz]
    refine ⟨?_, by show (c.emit z 0 1).2.ins = _; rw [i1, hin, hi], by show (c.emit z 0 1).2.prog.length ≤ _; omega, by show b.met.length ≤ _; omega⟩
    refine Sim.push (dn := 1) S (by omega) ?_ (fun m => ?_) (fun m => ⟨?_, fun h => by rw [hzo] at h; omega⟩)
    · have hlen := S.hx
      unfold fits
      rw [hzo, if_neg (by omega)]
      refine ⟨by rw [hzq]; exact (show nq nilQ = true by decide), ?_⟩
      rw [if_neg h1]
      rcases ar_cases a.kind with ⟨g, d⟩ | ⟨g, d1, d2⟩ | ⟨g, d1, d2⟩ | ⟨g, d1, d2⟩
      · omega
      · rw [if_pos g, hza]
        exact ⟨by omega, by omega, hz1 (by omega)⟩
      · rw [if_neg (by omega), hza]
        obtain ⟨_, _, w4, w5⟩ := hzb g
        rw [w5]
        exact ⟨g, by omega, by omega, by omega, by omega⟩
      · exfalso
        unfold arity at g
        split at g
        · cases g
        · split at g
          · cases g
          · split at g
            · cases g
            · omega
    · obtain ⟨X, e1, e2⟩ := v0 m
      refine ⟨X, e1, ?_⟩
      rw [hzq, raw_op h2 (y := (x.back a.b).r.getD 0) (fun har => by
        obtain ⟨w1, w2, w3, _⟩ := hzb har
        rw [w1, ratsOf_at _ w3, w2]), hza, Int.toNat_natCast, ratsOf_at _ u4, ← u3]
      exact e2
    · rw [v1 m, hzq, flv_op h2 (y := (x.back a.b).w) (fun har => by
        obtain ⟨w1, w2, w3, _⟩ := hzb har
        rw [w1, bitsOf_at _ w3, w2]), hza, Int.toNat_natCast, bitsOf_at _ u4, ← u3]
  rw [if_neg h2] at he hM ⊢
  rw [if_neg h2]
  by_cases h3 : a.kind = 11
  · rw [if_pos h3] at he hM ⊢
    rw [if_pos h3]
    have hA : (1 ≤ a.a ∧ a.a ≤ x.vals.length) ∧ (1 ≤ a.b ∧ a.b ≤ x.vals.length) := by unfold skips at hs; omega
    obtain ⟨u1, u2, u3, u4⟩ := S.back hA.1.1 hA.1.2
    obtain ⟨w1, w2, w3, w4⟩ := S.back hA.2.1 hA.2.2
    have eb : b.less (x.back a.a) (x.back a.b) = (lessOf b.mode (x.back a.a) (x.back a.b), { b with met := b.met ++ [lessOf b.mode (x.back a.a) (x.back a.b)], tie := b.tie || (!lessOf b.mode (x.back a.a) (x.back a.b) && !lessOf b.mode (x.back a.b) (x.back a.a)) }) := by
      unfold PB.less
      rw [if_neg hne, if_neg (by omega), if_neg (by rcases S.bm with m | m <;> (rw [m]; decide))]
    rw [eb] at hM ⊢
    obtain ⟨i1, i2⟩ := less_ins c (y.back a.a) (y.back a.b)
    refine ⟨S.say (by omega) hM u2 w2, by show (c.less _ _).2.ins = _; rw [i1, hin, hi]; rfl, by show (c.less _ _).2.prog.length ≤ _; rw [i2]; omega, ?_⟩
    show (b.met ++ [_]).length ≤ _
    rw [List.length_append]
    show b.met.length + 1 ≤ _
    omega
  rw [if_neg h3] at he hM ⊢
  rw [if_neg h3]
  exact ⟨S, by show c.ins = _; rw [hin, hi]; rfl, by show c.prog.length ≤ _; omega, by show b.met.length ≤ _; omega⟩
/-- the program's values, exactly, if none is too long -/
theorem Sim.exact (S : Sim M (isOf l) (wsOf l) b c x y) (h0 : b.mode = 0) (hz : ∀ i, i < c.prog.length → ¬ 4096 < bitsQ ((ratsOf x.vals).getD i 0)) : evTo (exSt (isOf l) [] c.prog) c.prog c.prog.length = .ok (ratsOf x.vals) := by
  have key : ∀ n, n ≤ c.prog.length → evTo (exSt (isOf l) [] c.prog) c.prog n = .ok (ratsOf (x.vals.take n)) := by
    intro n
    induction n with
    | zero => intro _; rfl
    | succ n ih =>
      intro hn
      have hlt : n < x.vals.length := by rw [S.hx]; omega
      obtain ⟨X, e1, e2⟩ := S.v0 h0 n (by omega)
      have hz' := hz n (by omega)
      rw [ratsOf_at _ hlt, e1] at hz'
      have e3 : x.vals.take (n + 1) = x.vals.take n ++ [(⟨some X, 0, 0⟩ : PV)] := by
        rw [List.take_add_one, List.getElem?_eq_getElem hlt]
        congr 2
        rw [← e1, List.getD_eq_getElem?_getD, List.getElem?_eq_getElem hlt]
        rfl
      rw [e3]
      have e4 : ratsOf (x.vals.take n ++ [(⟨some X, 0, 0⟩ : PV)]) = ratsOf (x.vals.take n) ++ [X] := by unfold ratsOf; rw [List.map_append]; rfl
      rw [e4]
      refine evTo_step (ih (by omega)) ?_
      unfold exSt
      rw [List.drop_nil, e2]
      exact big_yes hz'
  have := key _ (Nat.le_refl _)
  rw [← S.hx, List.take_length] at this
  rw [← S.hx]
  exact this
/-- what was written is a program -/
theorem Sim.prog {is : List Rat} {ws : List Nat} (S : Sim M is ws b c x y) (h : c.prog.length ≤ 65536) : IsProg vq nq c.prog := ⟨S.ft, h⟩
end

end Go.Proofs.YthpbaaanbimapaaGreatDoor
